import Derived.Test.YtcahdillpdekmaaOctB
namespace Go.Proofs.Ytcahdillpdekmaa
open Go.RowKit
set_option linter.unusedVariables false

/-! ## the exported calls -/

set_option maxHeartbeats 400000 in
theorem Put16_any (w : World) (v : Value) (ob : Nat) (l : List UInt8) (x : Nat) (h : Bs w v ob l) (hl : l.length ≤ 1000000) :
    Calls Try.prog 11 #[v, .int .u16 (x : Int)] w fun e w' => ∃ v', e = .returned v' ∧ NewB w w' v' (l ++ be 2 x) ∧ Ext [] w w' := by
  have hp := put_uint16 w v ob l x h hl
  clear h
  go_enter Try.func11, Try.ntmps11
  go_wp2_with (go_at_call 30; refine hp.mono ?_; rintro e w' ⟨v', rfl, hN, hE⟩)
  go_ret
  exact ⟨_, rfl, hN, hE⟩
set_option maxHeartbeats 400000 in
theorem Put32_any (w : World) (v : Value) (ob : Nat) (l : List UInt8) (x : Nat) (h : Bs w v ob l) (hl : l.length ≤ 1000000) :
    Calls Try.prog 12 #[v, .int .u32 (x : Int)] w fun e w' => ∃ v', e = .returned v' ∧ NewB w w' v' (l ++ be 4 x) ∧ Ext [] w w' := by
  have hp := put_uint32 w v ob l x h hl
  clear h
  go_enter Try.func12, Try.ntmps12
  go_wp2_with (go_at_call 31; refine hp.mono ?_; rintro e w' ⟨v', rfl, hN, hE⟩)
  go_ret
  exact ⟨_, rfl, hN, hE⟩
set_option maxHeartbeats 400000 in
theorem Put64_any (w : World) (v : Value) (ob : Nat) (l : List UInt8) (x : Nat) (h : Bs w v ob l) (hl : l.length ≤ 1000000) :
    Calls Try.prog 13 #[v, .int .u64 (x : Int)] w fun e w' => ∃ v', e = .returned v' ∧ NewB w w' v' (l ++ be 8 x) ∧ Ext [] w w' := by
  have hp := put_uint64 w v ob l x h hl
  clear h
  go_enter Try.func13, Try.ntmps13
  go_wp2_with (go_at_call 32; refine hp.mono ?_; rintro e w' ⟨v', rfl, hN, hE⟩)
  go_ret
  exact ⟨_, rfl, hN, hE⟩

set_option maxHeartbeats 400000 in
theorem U8_any (w : World) (b ob : Nat) (own : Value) (r : R) (h : RdAt w b ob own r) :
    Calls Try.prog 20 #[.pointer (some ⟨b, 0, none⟩)] w fun e w' => e = .returned (.int .u8 (weigh (r.got 1) : Nat)) ∧ RdAt w' b ob own (r.go 1) ∧ Ext [b] w w' := by
  have hp := take_uint8 w b ob own r h
  generalize weigh (r.got 1) = x at *
  generalize r.go 1 = r' at *
  clear h
  go_enter Try.func20, Try.ntmps20
  go_wp2_with (go_at_call 35; refine hp.mono ?_; rintro e w' ⟨rfl, hN, hE⟩)
  go_ret
  exact ⟨rfl, hN, hE⟩
set_option maxHeartbeats 400000 in
theorem U16_any (w : World) (b ob : Nat) (own : Value) (r : R) (h : RdAt w b ob own r) :
    Calls Try.prog 21 #[.pointer (some ⟨b, 0, none⟩)] w fun e w' => e = .returned (.int .u16 (weigh (r.got 2) : Nat)) ∧ RdAt w' b ob own (r.go 2) ∧ Ext [b] w w' := by
  have hp := take_uint16 w b ob own r h
  generalize weigh (r.got 2) = x at *
  generalize r.go 2 = r' at *
  clear h
  go_enter Try.func21, Try.ntmps21
  go_wp2_with (go_at_call 36; refine hp.mono ?_; rintro e w' ⟨rfl, hN, hE⟩)
  go_ret
  exact ⟨rfl, hN, hE⟩
set_option maxHeartbeats 400000 in
theorem U32_any (w : World) (b ob : Nat) (own : Value) (r : R) (h : RdAt w b ob own r) :
    Calls Try.prog 22 #[.pointer (some ⟨b, 0, none⟩)] w fun e w' => e = .returned (.int .u32 (weigh (r.got 4) : Nat)) ∧ RdAt w' b ob own (r.go 4) ∧ Ext [b] w w' := by
  have hp := take_uint32 w b ob own r h
  generalize weigh (r.got 4) = x at *
  generalize r.go 4 = r' at *
  clear h
  go_enter Try.func22, Try.ntmps22
  go_wp2_with (go_at_call 37; refine hp.mono ?_; rintro e w' ⟨rfl, hN, hE⟩)
  go_ret
  exact ⟨rfl, hN, hE⟩
set_option maxHeartbeats 400000 in
theorem U64_any (w : World) (b ob : Nat) (own : Value) (r : R) (h : RdAt w b ob own r) :
    Calls Try.prog 23 #[.pointer (some ⟨b, 0, none⟩)] w fun e w' => e = .returned (.int .u64 (weigh (r.got 8) : Nat)) ∧ RdAt w' b ob own (r.go 8) ∧ Ext [b] w w' := by
  have hp := take_uint64 w b ob own r h
  generalize weigh (r.got 8) = x at *
  generalize r.go 8 = r' at *
  clear h
  go_enter Try.func23, Try.ntmps23
  go_wp2_with (go_at_call 38; refine hp.mono ?_; rintro e w' ⟨rfl, hN, hE⟩)
  go_ret
  exact ⟨rfl, hN, hE⟩

theorem NewB.mono {w0 w w' : World} {v : Value} {l : List UInt8} (h : NewB w w' v l) (hw : w0.heap.size ≤ w.heap.size) : NewB w0 w' v l := by
  unfold NewB at *
  refine ⟨h.1, ?_⟩
  rcases h.2 with h2 | ⟨g, cap, cur, h1, h2, h3⟩
  · exact .inl h2
  · exact .inr ⟨g, cap, cur, h1, Nat.le_trans hw h2, h3⟩

theorem NewB.bs {w w' : World} {v : Value} {l : List UInt8} (h : NewB w w' v l) : ∃ ob, Bs w' v ob l ∧ w.heap.size ≤ ob := by
  obtain ⟨ob, hs, h | h⟩ := Sl.of_own h
  · subst h
    rcases Bs.cases hs with ⟨_, rfl⟩ | ⟨_, _, _, h, _⟩
    · exact ⟨w.heap.size, .nil _ _ _, Nat.le_refl _⟩
    · simp at h
  · exact ⟨ob, hs, h.1⟩

/-- the same, the block not that one (it may be the next new one) -/
theorem NewB.bs' {w w' : World} {v : Value} {l : List UInt8} (h : NewB w w' v l) (b : Nat) (hb : w'.heap.size ≤ b) : ∃ ob, Bs w' v ob l ∧ w.heap.size ≤ ob ∧ ob ≠ b ∧ (v = .slice none 0 0 ∨ ob < w'.heap.size) := by
  have h0 := h
  rcases h0.2 with ⟨rfl, hl⟩ | ⟨g, cap, cur, rfl, h1, h2, _⟩
  · obtain rfl : l = [] := List.eq_nil_of_length_eq_zero hl
    exact ⟨b + w.heap.size + 1, .nil _ _ _, by omega, by omega, .inl rfl⟩
  · obtain ⟨ob, hs, h3⟩ := h.bs
    rcases hs.cases with ⟨hv, _⟩ | ⟨off, sp, cap', hv, _⟩
    · simp at hv
    · simp only [Value.slice.injEq, Option.some.injEq, Addr.mk.injEq] at hv
      have : g = ob := hv.1.1
      subst this
      exact ⟨g, hs, h1, by have := size_heap h2; omega, .inr (size_heap h2)⟩

theorem NewB.spot {w w' : World} {v : Value} {l : List UInt8} (h : NewB w w' v l) : ∀ ad n c, v = .slice (some ad) n c → ad.spot = none := by
  rintro ad n c rfl
  rcases h.2 with ⟨h1, _⟩ | ⟨g, cap, cur, h1, _⟩
  · simp at h1
  · simp only [Value.slice.injEq, Option.some.injEq] at h1
    rw [h1.1]

theorem R.got_le (r : R) (n : Int) : (r.got n).length ≤ r.bs.length := by
  unfold R.got
  split
  · simp
  · simp only [List.length_take, List.length_drop]; omega

set_option maxHeartbeats 400000 in
theorem Raw_any (w : World) (b ob : Nat) (own : Value) (r : R) (n : Int) (h : RdAt w b ob own r) :
    Calls Try.prog 24 #[.pointer (some ⟨b, 0, none⟩), .int .i64 n] w fun e w' => ∃ v, e = .returned v ∧ NewB w w' v (r.got n) ∧ RdAt w' b ob own (r.go n) ∧ Ext [b] w w' := by
  have hn := next_any w b ob own r n h
  have hle := R.got_le r n
  have hb := h.blk
  have hlt : b < w.heap.size := size_heap hb
  have hsm := h.small
  generalize r.got n = l at *
  generalize r.go n = r' at *
  have hl : l.length ≤ 70000000000000 := by omega
  clear h hb hle hsm
  go_enter Try.func24, Try.ntmps24
  go_wp2_with (first
    | (go_at_call 39; refine hn.mono ?_; rintro e w1 ⟨v1, rfl, hB, hR, hE⟩)
    | (go_at_call 33; refine (clone_any w1 v1 ob l hB hl).mono ?_; rintro e w2 ⟨v2, rfl, hN, hE2⟩))
  go_ret
  exact ⟨_, rfl, hN.mono hE.size, hR.ext hE2 (by simp) (by simp), hE.trans' hE2 (by simp)⟩

set_option maxHeartbeats 400000 in
theorem Left_any (w : World) (b ob : Nat) (own : Value) (r : R) (h : RdAt w b ob own r) :
    Calls Try.prog 27 #[.pointer (some ⟨b, 0, none⟩)] w fun e w' => e = .returned (.int .i64 ((r.bs.length : Int) - r.pos)) ∧ ∃ n, w' = w.drewN n := by
  have ha := ahead_any w b _ _ _ _ h.blk (by omega) (by have := h.le; omega) (by have := h.small; omega)
  generalize ((r.bs.length : Int) - r.pos) = x at *
  clear h
  go_enter Try.func27, Try.ntmps27
  go_wp2_with (go_at_call 34; refine ha.mono ?_; rintro e w' ⟨rfl, n, rfl⟩)
  go_ret
  exact ⟨rfl, _, rfl⟩

set_option maxHeartbeats 400000 in
theorem Err_any (w : World) (b ob : Nat) (own : Value) (r : R) (h : RdAt w b ob own r) :
    Calls Try.prog 26 #[.pointer (some ⟨b, 0, none⟩)] w fun e w' => e = .returned (.int .i64 r.why) ∧ w = w' := by
  have c2 : w.cell? ⟨b, 2, none⟩ = some (.int .i64 r.why) := cell_of_heap h.blk 2
  generalize r.why = x at *
  clear h
  go_enter Try.func26, Try.ntmps26
  go_wp2
  go_ret
  exact ⟨rfl, rfl⟩

/-- what a reader shows k places ahead -/
def R.peek (r : R) (k : Int) : Option UInt8 := if r.why = 0 ∧ 0 ≤ k ∧ k < (r.bs.length : Int) - r.pos then some (r.bs.getD (r.pos + k.toNat) 0) else none
def peekTuple : Option UInt8 → Value
  | some x => .tuple #[BV x, .bool true]
  | none => .tuple #[.int .u8 0, .bool false]

set_option maxHeartbeats 400000 in
theorem Peek_why (w : World) (b ob : Nat) (own : Value) (r : R) (k : Int) (h : RdAt w b ob own r) (hw : r.why ≠ 0) :
    Calls Try.prog 17 #[.pointer (some ⟨b, 0, none⟩), .int .i64 k] w fun e w' => e = .returned (.tuple #[.int .u8 0, .bool false]) ∧ ∃ n, w' = w.drewN n := by
  have c2 : w.cell? ⟨b, 2, none⟩ = some (.int .i64 r.why) := cell_of_heap h.blk 2
  have e2 : (r.why != 0) = true := by simpa using hw
  generalize r.why = x at *
  clear h hw
  go_enter Try.func17, Try.ntmps17
  go_wp2
  go_ret2
  exact ⟨rfl, 0, rfl⟩

set_option maxHeartbeats 400000 in
theorem Peek_neg (w : World) (b ob : Nat) (own : Value) (r : R) (k : Int) (h : RdAt w b ob own r) (hw : r.why = 0) (hk : k < 0) :
    Calls Try.prog 17 #[.pointer (some ⟨b, 0, none⟩), .int .i64 k] w fun e w' => e = .returned (.tuple #[.int .u8 0, .bool false]) ∧ ∃ n, w' = w.drewN n := by
  have c2 : w.cell? ⟨b, 2, none⟩ = some (.int .i64 r.why) := cell_of_heap h.blk 2
  rw [hw] at c2
  clear h hw
  go_enter Try.func17, Try.ntmps17
  go_wp2
  go_ret2
  exact ⟨rfl, 0, rfl⟩

set_option maxHeartbeats 400000 in
theorem Peek_far (w : World) (b ob : Nat) (own : Value) (r : R) (k : Int) (h : RdAt w b ob own r) (hw : r.why = 0) (hk : 0 ≤ k) (hf : (r.bs.length : Int) - r.pos ≤ k) :
    Calls Try.prog 17 #[.pointer (some ⟨b, 0, none⟩), .int .i64 k] w fun e w' => e = .returned (.tuple #[.int .u8 0, .bool false]) ∧ ∃ n, w' = w.drewN n := by
  have ha := ahead_any w b _ _ _ _ h.blk (by omega) (by have := h.le; omega) (by have := h.small; omega)
  have c2 : w.cell? ⟨b, 2, none⟩ = some (.int .i64 r.why) := cell_of_heap h.blk 2
  rw [hw] at c2
  generalize ((r.bs.length : Int) - r.pos) = x at *
  clear h hw
  go_enter Try.func17, Try.ntmps17
  go_wp2_with (go_at_call 34; refine ha.mono ?_; rintro e w' ⟨rfl, n, rfl⟩)
  go_ret2
  exact ⟨rfl, _, rfl⟩

set_option maxHeartbeats 400000 in
theorem Peek_near (w : World) (b ob : Nat) (own : Value) (r : R) (k : Int) (h : RdAt w b ob own r) (hw : r.why = 0) (hk : 0 ≤ k) (hf : k < (r.bs.length : Int) - r.pos) :
    Calls Try.prog 17 #[.pointer (some ⟨b, 0, none⟩), .int .i64 k] w fun e w' => e = .returned (.tuple #[BV (r.bs.getD (r.pos + k.toNat) 0), .bool true]) ∧ ∃ n, w' = w.drewN n := by
  have ha := ahead_any w b _ _ _ _ h.blk (by omega) (by have := h.le; omega) (by have := h.small; omega)
  have c2 : w.cell? ⟨b, 2, none⟩ = some (.int .i64 r.why) := cell_of_heap h.blk 2
  have c0 : w.cell? ⟨b, 0, none⟩ = some (.int .i64 r.pos) := cell_of_heap h.blk 0
  have c3 : w.cell? ⟨b, 3, none⟩ = some own := cell_of_heap h.blk 3
  have hsm := h.small
  have hle := h.le
  rw [hw] at c2
  obtain ⟨m, rfl⟩ := Int.eq_ofNat_of_zero_le hk
  have hown := h.own
  obtain ⟨bs, pos, why⟩ := r
  dsimp only at *
  have hspo := h.sp
  rcases hown.cases with ⟨rfl, rfl⟩ | ⟨off, sp, cap, rfl, h1, h2, _, h3⟩
  · simp at hf; omega
  obtain rfl : sp = none := hspo _ _ _ rfl
  clear hspo
  have hx := h3 (pos + m) (by omega)
  have hg : bs.getD (pos + (m : Int).toNat) 0 = bs[pos + m]'(by omega) := by rw [List.getD_eq_getElem?_getD, List.getElem?_eq_getElem (by simp; omega)]; rfl
  rw [hg]
  have hi : (pos : Int) + m < bs.length := by omega
  unfold BV at *
  generalize (bs[pos + m]'(by omega)).toNat = y at *
  clear h hw h3 hown hg
  go_enter Try.func17, Try.ntmps17
  go_wp2_with (first
    | (go_at_call 34; refine ha.mono ?_; rintro e w' ⟨rfl, n, rfl⟩))
  go_quiet (fail)
  go_wp2
  go_ret2
  exact ⟨rfl, _, drewN_drewN _ _ _⟩

/-- (*Reader).Peek -/
theorem Peek_any (w : World) (b ob : Nat) (own : Value) (r : R) (k : Int) (h : RdAt w b ob own r) :
    Calls Try.prog 17 #[.pointer (some ⟨b, 0, none⟩), .int .i64 k] w fun e w' => e = .returned (peekTuple (r.peek k)) ∧ ∃ n, w' = w.drewN n := by
  by_cases h1 : r.why = 0
  · by_cases h2 : k < 0
    · have : r.peek k = none := by simp only [R.peek]; rw [if_neg (by omega)]
      rw [this]; exact Peek_neg w b ob own r k h h1 h2
    · by_cases h3 : (r.bs.length : Int) - r.pos ≤ k
      · have : r.peek k = none := by simp only [R.peek]; rw [if_neg (by omega)]
        rw [this]; exact Peek_far w b ob own r k h h1 (by omega) h3
      · have : r.peek k = some (r.bs.getD (r.pos + k.toNat) 0) := by simp only [R.peek]; rw [if_pos (by omega)]
        rw [this]; exact Peek_near w b ob own r k h h1 (by omega) (by omega)
  · have : r.peek k = none := by simp only [R.peek]; rw [if_neg (by omega)]
    rw [this]; exact Peek_why w b ob own r k h h1

set_option maxHeartbeats 400000 in
theorem Read_any (w : World) (v : Value) (ob0 : Nat) (l : List UInt8) (h : Bs w v ob0 l) (hl : l.length ≤ 1000000) :
    Calls Try.prog 16 #[v] w fun e w' => ∃ b ob own, e = .returned (.pointer (some ⟨b, 0, none⟩)) ∧ RdAt w' b ob own ⟨l, 0, 0⟩ ∧ w.heap.size ≤ b ∧ w.heap.size ≤ ob ∧ (own = .slice none 0 0 ∨ ob < w'.heap.size) ∧ Ext [] w w' := by
  have hc := clone_any w v ob0 l h (by omega)
  obtain ⟨av, cv, rfl⟩ := h.shape
  clear h
  go_enter Try.func16, Try.ntmps16
  go_wp2_with (first
    | (go_at_call 33; refine hc.mono ?_; rintro e w1 ⟨v1, rfl, hN, hE⟩; obtain ⟨ob, hB, ho, hne, hlt⟩ := hN.bs' w1.heap.size (Nat.le_refl _); obtain ⟨a1, c1, rfl⟩ := hB.shape))
  go_ret
  have he := (Ext.refl [] w1).alloc (Obj.cells #[Value.int IntKind.i64 0, Value.int IntKind.i64 ↑l.length, Value.int IntKind.i64 0, Value.slice a1 l.length c1] 70)
  exact ⟨w1.heap.size, ob, _, rfl, ⟨by unfold RdBlk; show (w1.heap.push _)[w1.heap.size]? = _; simp, hB.ext he (by simp), hne, hN.spot, Nat.zero_le _, hl⟩, hE.size, ho, hlt.imp id (fun h => Nat.lt_of_lt_of_le h he.size), hE.trans he⟩

/-! ## of no reader -/
theorem next_nil (w : World) (n : Int) : Calls Try.prog 39 #[.pointer none, .int .i64 n] w fun e w' => e = .returned (.slice none 0 0) ∧ w = w' := by
  go_enter Try.func39, Try.ntmps39
  go_wp2
  go_ret
  exact ⟨rfl, rfl⟩
set_option maxHeartbeats 400000 in
theorem U8_nil (w : World) : Calls Try.prog 20 #[.pointer none] w fun e w' => e = .returned (.int .u8 0) ∧ Ext [] w w' := by
  have ht : ∀ w, Calls Try.prog 35 #[.pointer none] w fun e w' => e = .returned (.int .u8 0) ∧ Ext [] w w' := by
    intro w
    go_enter Try.func35, Try.ntmps35
    go_wp2_with (first
      | (go_at_call 46; refine (width_uint8 _).mono ?_; rintro e w' ⟨rfl, rfl⟩)
      | (go_at_call 39; refine (next_nil _ _).mono ?_; rintro e w1 ⟨rfl, rfl⟩))
    refine wp_loop_rounds 1 ?_
    rw [rounds_succ]
    go_wp2
    go_ret
    exact ⟨rfl, (Ext.refl [] w).alloc _⟩
  go_enter Try.func20, Try.ntmps20
  go_wp2_with (go_at_call 35; refine (ht _).mono ?_; rintro e w' ⟨rfl, hE⟩)
  go_ret
  exact ⟨rfl, hE⟩
set_option maxHeartbeats 400000 in
theorem U16_nil (w : World) : Calls Try.prog 21 #[.pointer none] w fun e w' => e = .returned (.int .u16 0) ∧ Ext [] w w' := by
  have ht : ∀ w, Calls Try.prog 36 #[.pointer none] w fun e w' => e = .returned (.int .u16 0) ∧ Ext [] w w' := by
    intro w
    go_enter Try.func36, Try.ntmps36
    go_wp2_with (first
      | (go_at_call 43; refine (width_uint16 _).mono ?_; rintro e w' ⟨rfl, rfl⟩)
      | (go_at_call 39; refine (next_nil _ _).mono ?_; rintro e w1 ⟨rfl, rfl⟩))
    refine wp_loop_rounds 1 ?_
    rw [rounds_succ]
    go_wp2
    go_ret
    exact ⟨rfl, (Ext.refl [] w).alloc _⟩
  go_enter Try.func21, Try.ntmps21
  go_wp2_with (go_at_call 36; refine (ht _).mono ?_; rintro e w' ⟨rfl, hE⟩)
  go_ret
  exact ⟨rfl, hE⟩
set_option maxHeartbeats 400000 in
theorem U32_nil (w : World) : Calls Try.prog 22 #[.pointer none] w fun e w' => e = .returned (.int .u32 0) ∧ Ext [] w w' := by
  have ht : ∀ w, Calls Try.prog 37 #[.pointer none] w fun e w' => e = .returned (.int .u32 0) ∧ Ext [] w w' := by
    intro w
    go_enter Try.func37, Try.ntmps37
    go_wp2_with (first
      | (go_at_call 44; refine (width_uint32 _).mono ?_; rintro e w' ⟨rfl, rfl⟩)
      | (go_at_call 39; refine (next_nil _ _).mono ?_; rintro e w1 ⟨rfl, rfl⟩))
    refine wp_loop_rounds 1 ?_
    rw [rounds_succ]
    go_wp2
    go_ret
    exact ⟨rfl, (Ext.refl [] w).alloc _⟩
  go_enter Try.func22, Try.ntmps22
  go_wp2_with (go_at_call 37; refine (ht _).mono ?_; rintro e w' ⟨rfl, hE⟩)
  go_ret
  exact ⟨rfl, hE⟩
set_option maxHeartbeats 400000 in
theorem U64_nil (w : World) : Calls Try.prog 23 #[.pointer none] w fun e w' => e = .returned (.int .u64 0) ∧ Ext [] w w' := by
  have ht : ∀ w, Calls Try.prog 38 #[.pointer none] w fun e w' => e = .returned (.int .u64 0) ∧ Ext [] w w' := by
    intro w
    go_enter Try.func38, Try.ntmps38
    go_wp2_with (first
      | (go_at_call 45; refine (width_uint64 _).mono ?_; rintro e w' ⟨rfl, rfl⟩)
      | (go_at_call 39; refine (next_nil _ _).mono ?_; rintro e w1 ⟨rfl, rfl⟩))
    refine wp_loop_rounds 1 ?_
    rw [rounds_succ]
    go_wp2
    go_ret
    exact ⟨rfl, (Ext.refl [] w).alloc _⟩
  go_enter Try.func23, Try.ntmps23
  go_wp2_with (go_at_call 38; refine (ht _).mono ?_; rintro e w' ⟨rfl, hE⟩)
  go_ret
  exact ⟨rfl, hE⟩
theorem Raw_nil (w : World) (n : Int) : Calls Try.prog 24 #[.pointer none, .int .i64 n] w fun e w' => e = .returned (.slice none 0 0) ∧ w = w' := by
  go_enter Try.func24, Try.ntmps24
  go_wp2_with (first
    | (go_at_call 39; refine (next_nil _ _).mono ?_; rintro e w1 ⟨rfl, rfl⟩)
    | (go_at_call 33; refine (clone_nil _).mono ?_; rintro e w2 ⟨rfl, rfl⟩))
  go_ret
  exact ⟨rfl, rfl⟩
theorem Left_nil (w : World) : Calls Try.prog 27 #[.pointer none] w fun e w' => e = .returned (.int .i64 0) ∧ w = w' := by
  go_enter Try.func27, Try.ntmps27
  go_wp2
  go_ret
  exact ⟨rfl, rfl⟩
theorem Err_nil (w : World) : Calls Try.prog 26 #[.pointer none] w fun e w' => e = .returned (.int .i64 1) ∧ w = w' := by
  go_enter Try.func26, Try.ntmps26
  go_wp2
  go_ret
  exact ⟨rfl, rfl⟩
theorem Peek_nil (w : World) (k : Int) : Calls Try.prog 17 #[.pointer none, .int .i64 k] w fun e w' => e = .returned (.tuple #[.int .u8 0, .bool false]) ∧ w = w' := by
  go_enter Try.func17, Try.ntmps17
  go_wp2
  go_ret2
  exact ⟨rfl, rfl⟩
end Go.Proofs.Ytcahdillpdekmaa
