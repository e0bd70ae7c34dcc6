import Derived.Test.YtcahdillpdekmaaOctE
namespace Go.Proofs.Ytcahdillpdekmaa
open Go.RowKit
set_option linter.unusedVariables false

theorem RdAt.drewN {w : World} {b ob : Nat} {own : Value} {r : R} (h : RdAt w b ob own r) (n : Nat) : RdAt (w.drewN n) b ob own r := ⟨h.blk, h.own, h.ne, h.sp, h.le, h.small⟩

theorem RdAt.move {w : World} {b ob ob' : Nat} {own : Value} {r : R} (h : RdAt w b ob own r) (hn : own = .slice none 0 0) (hne : ob' ≠ b) : RdAt w b ob' own r := by
  refine ⟨h.blk, ?_, hne, h.sp, h.le, h.small⟩
  rcases h.own.cases with ⟨h1, h2⟩ | ⟨_, _, _, h1, _⟩
  · rw [h1, h2]; exact .nothing' _ _
  · rw [hn] at h1; simp at h1

/-! ## wakes -/
theorem wk_peek2 (w : World) (b ob : Nat) (own : Value) (h : RdAt w b ob own ⟨[1, 2, 3], 0, 0⟩) :
    Calls Try.prog 17 #[.pointer (some ⟨b, 0, none⟩), .int .i64 2] w fun e w' => e = .returned (.tuple #[.int .u8 3, .bool true]) ∧ ∃ n, w' = w.drewN n := Peek_any w b ob own _ 2 h
theorem wk_u16 (w : World) (b ob : Nat) (own : Value) (h : RdAt w b ob own ⟨[1, 2, 3], 0, 0⟩) :
    Calls Try.prog 21 #[.pointer (some ⟨b, 0, none⟩)] w fun e w' => e = .returned (.int .u16 258) ∧ RdAt w' b ob own ⟨[1, 2, 3], 2, 0⟩ ∧ Ext [b] w w' := U16_any w b ob own _ h
theorem wk_peek1 (w : World) (b ob : Nat) (own : Value) (h : RdAt w b ob own ⟨[1, 2, 3], 2, 0⟩) :
    Calls Try.prog 17 #[.pointer (some ⟨b, 0, none⟩), .int .i64 1] w fun e w' => e = .returned (.tuple #[.int .u8 0, .bool false]) ∧ ∃ n, w' = w.drewN n := Peek_any w b ob own _ 1 h
theorem wk_u16' (w : World) (b ob : Nat) (own : Value) (h : RdAt w b ob own ⟨[1, 2, 3], 2, 0⟩) :
    Calls Try.prog 21 #[.pointer (some ⟨b, 0, none⟩)] w fun e w' => e = .returned (.int .u16 0) ∧ RdAt w' b ob own ⟨[1, 2, 3], 2, 7⟩ ∧ Ext [b] w w' := U16_any w b ob own _ h
theorem wk_err (w : World) (b ob : Nat) (own : Value) (h : RdAt w b ob own ⟨[1, 2, 3], 2, 7⟩) :
    Calls Try.prog 26 #[.pointer (some ⟨b, 0, none⟩)] w fun e w' => e = .returned (.int .i64 7) ∧ w = w' := Err_any w b ob own _ h
theorem wk_left (w : World) (b ob : Nat) (own : Value) (h : RdAt w b ob own ⟨[1, 2, 3], 2, 7⟩) :
    Calls Try.prog 27 #[.pointer (some ⟨b, 0, none⟩)] w fun e w' => e = .returned (.int .i64 1) ∧ ∃ n, w' = w.drewN n := Left_any w b ob own _ h
theorem wk_put (w : World) : Calls Try.prog 13 #[.slice (some ⟨w.heap.size, 0, none⟩) 1 1, .int .u64 2] (w.alloc (.cells #[.int .u8 9] 5)) fun e w' => ∃ a c, e = .returned (.slice a 9 c) ∧ Ext [] w w' := by
  refine (Put64_any _ _ w.heap.size [9] 2 (Sl.one w (BV 9) _) (by simp)).mono ?_
  rintro e w' ⟨v, rfl, hN, hE⟩
  obtain ⟨ob, hB, _⟩ := hN.bs
  obtain ⟨a, c, rfl⟩ := hB.shape
  exact ⟨a, c, rfl, ((Ext.refl [] w).alloc _).trans hE⟩

set_option maxHeartbeats 1000000 in
theorem wakes_any (w : World) : Calls Try.prog 9 #[] w fun e w' => e = .returned (.bool true) ∧ Ext [] w w' := by
  have hr := Read_any (w.alloc (.cells #[.int .u8 1, .int .u8 2, .int .u8 3] 5)) (.slice (some ⟨w.heap.size, 0, none⟩) 3 3) w.heap.size [1, 2, 3]
    (Sl.lit w [.int .u8 1, .int .u8 2, .int .u8 3] _ 1 3 rfl (by decide)) (by simp)
  go_enter Try.func9, Try.ntmps9
  go_wp2_with (first
    | (go_at_call 16; refine hr.mono ?_; rintro e w1 ⟨b, ob, own, rfl, h1, hb1, _, _, he1⟩)
    | (go_at_call 17; with_reducible refine (wk_peek2 _ b ob own h1).mono ?_; rintro e w2 ⟨rfl, n2, rfl⟩; have h2 := h1.drewN n2)
    | (go_at_call 21; with_reducible refine (wk_u16 _ b ob own h2).mono ?_; rintro e w3 ⟨rfl, h3, he3⟩)
    | (go_at_call 17; with_reducible refine (wk_peek1 _ b ob own h3).mono ?_; rintro e w4 ⟨rfl, n4, rfl⟩; have h4 := h3.drewN n4)
    | (go_at_call 21; with_reducible refine (wk_u16' _ b ob own h4).mono ?_; rintro e w5 ⟨rfl, h5, he5⟩)
    | (go_at_call 26; refine (wk_err _ b ob own h5).mono ?_; rintro e w6 ⟨rfl, rfl⟩)
    | (go_at_call 27; refine (wk_left _ b ob own h5).mono ?_; rintro e w7 ⟨rfl, n7, rfl⟩)
    | (go_at_call 13; refine (wk_put _).mono ?_; rintro e w8 ⟨a8, c8, rfl, he8⟩))
  go_ret
  have hbw : ∀ i ∈ [b], i ∈ ([] : List Nat) ∨ w.heap.size ≤ i := by intro i hi; simp at hi hb1; omega
  exact ⟨rfl, (((((((Ext.refl [] w).alloc _).trans he1).drewN n2).trans' he3 hbw).drewN n4).trans' he5 hbw |>.drewN n7).trans he8⟩

/-! ## OctetNil -/
set_option maxHeartbeats 1000000 in
theorem walkNil (w : World) (n : Int) : Calls Try.prog 5 #[.int .i64 n] w fun e w' => e = .returned (.bool true) ∧ Below w.heap.size w w' := by
  go_enter Try.func5, Try.ntmps5
  go_wp2_with (first
    | (go_at_call 9; refine (wakes_any _).mono ?_; rintro e w0 ⟨rfl, h0⟩)
    | (go_at_call 17; refine (Peek_nil _ _).mono ?_; rintro e w1 ⟨rfl, rfl⟩)
    | (go_at_call 20; refine (U8_nil _).mono ?_; rintro e w1 ⟨rfl, h1⟩)
    | (go_at_call 21; refine (U16_nil _).mono ?_; rintro e w1 ⟨rfl, h2⟩)
    | (go_at_call 22; refine (U32_nil _).mono ?_; rintro e w1 ⟨rfl, h3⟩)
    | (go_at_call 23; refine (U64_nil _).mono ?_; rintro e w1 ⟨rfl, h4⟩)
    | (go_at_call 24; refine (Raw_nil _ _).mono ?_; rintro e w1 ⟨rfl, rfl⟩)
    | (go_at_call 27; refine (Left_nil _).mono ?_; rintro e w1 ⟨rfl, rfl⟩)
    | (go_at_call 26; refine (Err_nil _).mono ?_; rintro e w1 ⟨rfl, rfl⟩))
  go_ret
  exact ⟨rfl, ((((h0.trans h1).trans h2).trans h3).trans h4).below⟩
end Go.Proofs.Ytcahdillpdekmaa
