
import Derived.Test.YtpdfmeaemlgniaaOctB
namespace Go.Proofs.Ytpdfmeaemlgniaa
open Go.RowKit
set_option linter.unusedVariables false

/-! ## the exported calls -/

set_option maxHeartbeats 400000 in
theorem Put32_any (w : World) (v : Value) (ob : Nat) (l : List UInt8) (x : Nat) (h : Bs w v ob l) (hl : l.length ≤ 1000000) :
    Calls Try.prog 58 #[v, .int .u32 (x : Int)] w fun e w' => ∃ v', e = .returned v' ∧ NewB w w' v' (l ++ be 4 x) ∧ Ext [] w w' := by
  have hp := put_uint32 w v ob l x h hl
  clear h
  go_enter Try.func58, Try.ntmps58
  go_wp2_with (go_at_call 73; refine hp.mono ?_; rintro e w' ⟨v', rfl, hN, hE⟩)
  go_ret
  exact ⟨_, rfl, hN, hE⟩
set_option maxHeartbeats 400000 in
theorem U32_any (w : World) (b ob : Nat) (own : Value) (r : R) (h : RdAt w b ob own r) :
    Calls Try.prog 64 #[.pointer (some ⟨b, 0, none⟩)] w fun e w' => e = .returned (.int .u32 (weigh (r.got 4) : Nat)) ∧ RdAt w' b ob own (r.go 4) ∧ Ext [b] w w' := by
  have hp := take_uint32 w b ob own r h
  generalize weigh (r.got 4) = x at *
  generalize r.go 4 = r' at *
  clear h
  go_enter Try.func64, Try.ntmps64
  go_wp2_with (go_at_call 76; refine hp.mono ?_; rintro e w' ⟨rfl, hN, hE⟩)
  go_ret
  exact ⟨rfl, hN, hE⟩
theorem NewB.mono {w0 w w' : World} {v : Value} {l : List UInt8} (h : NewB w w' v l) (hw : w0.heap.size ≤ w.heap.size) : NewB w0 w' v l := by
  unfold NewB at *
  refine ⟨h.1, ?_⟩
  rcases h.2 with h2 | ⟨g, cap, cur, h1, h2, h3⟩
  · exact .inl h2
  · exact .inr ⟨g, cap, cur, h1, Nat.le_trans hw h2, h3⟩

theorem NewB.bs {w w' : World} {v : Value} {l : List UInt8} (h : NewB w w' v l) : ∃ ob, Bs w' v ob l ∧ w.heap.size ≤ ob := by
  obtain ⟨ob, hs, h | h⟩ := Sl.of_own h
  · subst h
    rcases Bs.cases hs with ⟨_, rfl⟩ | ⟨_, _, _, h, _⟩
    · exact ⟨w.heap.size, .nil _ _ _, Nat.le_refl _⟩
    · simp at h
  · exact ⟨ob, hs, h.1⟩

/-- the same, the block not that one (it may be the next new one) -/
theorem NewB.bs' {w w' : World} {v : Value} {l : List UInt8} (h : NewB w w' v l) (b : Nat) (hb : w'.heap.size ≤ b) : ∃ ob, Bs w' v ob l ∧ w.heap.size ≤ ob ∧ ob ≠ b ∧ (v = .slice none 0 0 ∨ ob < w'.heap.size) := by
  have h0 := h
  rcases h0.2 with ⟨rfl, hl⟩ | ⟨g, cap, cur, rfl, h1, h2, _⟩
  · obtain rfl : l = [] := List.eq_nil_of_length_eq_zero hl
    exact ⟨b + w.heap.size + 1, .nil _ _ _, by omega, by omega, .inl rfl⟩
  · obtain ⟨ob, hs, h3⟩ := h.bs
    rcases hs.cases with ⟨hv, _⟩ | ⟨off, sp, cap', hv, _⟩
    · simp at hv
    · simp only [Value.slice.injEq, Option.some.injEq, Addr.mk.injEq] at hv
      have : g = ob := hv.1.1
      subst this
      exact ⟨g, hs, h1, by have := size_heap h2; omega, .inr (size_heap h2)⟩

theorem NewB.spot {w w' : World} {v : Value} {l : List UInt8} (h : NewB w w' v l) : ∀ ad n c, v = .slice (some ad) n c → ad.spot = none := by
  rintro ad n c rfl
  rcases h.2 with ⟨h1, _⟩ | ⟨g, cap, cur, h1, _⟩
  · simp at h1
  · simp only [Value.slice.injEq, Option.some.injEq] at h1
    rw [h1.1]

theorem R.got_le (r : R) (n : Int) : (r.got n).length ≤ r.bs.length := by
  unfold R.got
  split
  · simp
  · simp only [List.length_take, List.length_drop]; omega

/-- what a reader shows k places ahead -/
def R.peek (r : R) (k : Int) : Option UInt8 := if r.why = 0 ∧ 0 ≤ k ∧ k < (r.bs.length : Int) - r.pos then some (r.bs.getD (r.pos + k.toNat) 0) else none
def peekTuple : Option UInt8 → Value
  | some x => .tuple #[BV x, .bool true]
  | none => .tuple #[.int .u8 0, .bool false]

set_option maxHeartbeats 400000 in
theorem Read_any (w : World) (v : Value) (ob0 : Nat) (l : List UInt8) (h : Bs w v ob0 l) (hl : l.length ≤ 1000000) :
    Calls Try.prog 63 #[v] w fun e w' => ∃ b ob own, e = .returned (.pointer (some ⟨b, 0, none⟩)) ∧ RdAt w' b ob own ⟨l, 0, 0⟩ ∧ w.heap.size ≤ b ∧ w.heap.size ≤ ob ∧ (own = .slice none 0 0 ∨ ob < w'.heap.size) ∧ Ext [] w w' := by
  have hc := clone_any w v ob0 l h (by omega)
  obtain ⟨av, cv, rfl⟩ := h.shape
  clear h
  go_enter Try.func63, Try.ntmps63
  go_wp2_with (first
    | (go_at_call 65; refine hc.mono ?_; rintro e w1 ⟨v1, rfl, hN, hE⟩; obtain ⟨ob, hB, ho, hne, hlt⟩ := hN.bs' w1.heap.size (Nat.le_refl _); obtain ⟨a1, c1, rfl⟩ := hB.shape))
  go_ret
  have he := (Ext.refl [] w1).alloc (Obj.cells #[Value.int IntKind.i64 0, Value.int IntKind.i64 ↑l.length, Value.int IntKind.i64 0, Value.slice a1 l.length c1] 105)
  exact ⟨w1.heap.size, ob, _, rfl, ⟨by unfold RdBlk; show (w1.heap.push _)[w1.heap.size]? = _; simp, hB.ext he (by simp), hne, hN.spot, Nat.zero_le _, hl⟩, hE.size, ho, hlt.imp id (fun h => Nat.lt_of_lt_of_le h he.size), hE.trans he⟩

/-! ## of no reader -/
theorem next_nil (w : World) (n : Int) : Calls Try.prog 83 #[.pointer none, .int .i64 n] w fun e w' => e = .returned (.slice none 0 0) ∧ w = w' := by
  go_enter Try.func83, Try.ntmps83
  go_wp2
  go_ret
  exact ⟨rfl, rfl⟩
set_option maxHeartbeats 400000 in
theorem U32_nil (w : World) : Calls Try.prog 64 #[.pointer none] w fun e w' => e = .returned (.int .u32 0) ∧ Ext [] w w' := by
  have ht : ∀ w, Calls Try.prog 76 #[.pointer none] w fun e w' => e = .returned (.int .u32 0) ∧ Ext [] w w' := by
    intro w
    go_enter Try.func76, Try.ntmps76
    go_wp2_with (first
      | (go_at_call 80; refine (width_uint32 _).mono ?_; rintro e w' ⟨rfl, rfl⟩)
      | (go_at_call 83; refine (next_nil _ _).mono ?_; rintro e w1 ⟨rfl, rfl⟩))
    refine wp_loop_rounds 1 ?_
    rw [rounds_succ]
    go_wp2
    go_ret
    exact ⟨rfl, (Ext.refl [] w).alloc _⟩
  go_enter Try.func64, Try.ntmps64
  go_wp2_with (go_at_call 76; refine (ht _).mono ?_; rintro e w' ⟨rfl, hE⟩)
  go_ret
  exact ⟨rfl, hE⟩
end Go.Proofs.Ytpdfmeaemlgniaa
