/-
  PROVED: bowspritlaw01.OctetReads: for all bytes and every list of asks the call returns true: a reader tells just what the document's reader tells. No condition.
-/
import Derived.Test.YtcahdillpdekmaaOctH
import Derived.OpenShut
import Derived.ChangeOld
namespace Go.Proofs.Ytcahdillpdekmaa
open Go.RowKit
set_option linter.unusedVariables false

/-- at the head of a round of the law's loop -/
structure RS (w W : World) (b orb M D : Nat) (own v0 : Value) (l : List UInt8) (r : R) : Prop where
  rd : RdAt W b orb own r
  bs : r.bs = l
  m : Blk W M 41 [v0, .int .i64 r.pos, .int .i64 r.why]
  d : Blk W D 42 [.int .i64 1, .int .i64 2, .int .i64 4, .int .i64 8]
  ext : Ext [] w W

theorem kind6 (K : Int) : ∃ kk : Int, wrap64 ((IntKind.u64.wrap K).tmod 6) = kk ∧ 0 ≤ kk ∧ kk ≤ 5 := by
  refine ⟨_, rfl, ?_⟩
  have h : (IntKind.u64.wrap K).tmod 6 = (IntKind.u64.wrap K) % 6 := Int.tmod_eq_emod_of_nonneg (by rw [wrap_u64_mod]; omega)
  rw [h, IntWalk.wrap64_in _ (by omega)]
  omega

theorem m64_small (n : Nat) (h : n < 18446744073709551616) : m64 n = n := by unfold m64; omega

/-! ## what a round needs of its callees -/
theorem round0 {w : World} {v0 : Value} {ob : Nat} (l : List UInt8) (r : R) (hbs : r.bs = l) (hb : Bs w v0 ob l) (hle : r.pos ≤ l.length) (hl : l.length ≤ 3000) :
    ∃ (X : Int) (G : List UInt8) (r' : R), 0 ≤ X ∧ X ≤ 255 ∧
      (∀ W, Ext [] w W → Calls Try.prog 19 #[.agg #[v0, .int .i64 r.pos, .int .i64 r.why], .int .i64 1] W fun e w' => ∃ v2, e = .returned (.tuple #[.agg #[v0, .int .i64 r'.pos, .int .i64 r'.why], v2]) ∧ NewB W w' v2 G ∧ Ext [] W w') ∧
      (∀ W b orb own, RdAt W b orb own r → Calls Try.prog 20 #[.pointer (some ⟨b, 0, none⟩)] W fun e w' => e = .returned (.int .u8 X) ∧ RdAt w' b orb own r' ∧ Ext [b] W w') ∧
      (∀ W v o, Bs W v o G → Calls Try.prog 25 #[v] W fun e w' => e = .returned (.int .u64 X) ∧ w' = W) ∧
      r'.pos ≤ l.length ∧ r'.bs = l := by
  have hgl : (r.got (1 : Nat)).length ≤ 1 := by rcases R.got_length r 1 with h | h <;> omega
  rw [show ((1 : Nat) : Int) = 1 from rfl] at hgl
  have hw : weigh (r.got 1) < 256 ^ 1 := Nat.lt_of_lt_of_le (weigh_lt _) (Nat.pow_le_pow_right (by decide) hgl)
  have e : (256 : Nat) ^ 1 = 255 + 1 := by decide
  have hle' : (r.go 1).pos ≤ l.length ∧ (r.go 1).bs = l := by
    cases h : r.bad 1
    · obtain ⟨g1, g2, g3, g4⟩ := R.go_good h
      rw [g4, hbs] at *
      exact ⟨by dsimp only; omega, rfl⟩
    · obtain ⟨g1, g2, g3⟩ := R.go_bad h
      rw [g1, g2]; exact ⟨hle, hbs⟩
  refine ⟨weigh (r.got 1), r.got 1, r.go 1, by omega, by omega, ?_, ?_, ?_, hle'⟩
  · intro W hE
    refine (rRaw_any W v0 ob r 1 (by rw [hbs]; exact hb.ext hE (by simp)) (by rw [hbs]; exact hle) (by rw [hbs]; omega) (by omega)).mono ?_
    rintro e w' ⟨v2, h1, h2, h3⟩
    exact ⟨v2, h1, h2, h3⟩
  · intro W b orb own h
    exact U8_any W b orb own r h
  · intro W v o h
    refine (Weighs_any W v o _ h (by omega)).mono ?_
    rintro e w' ⟨rfl, rfl⟩
    exact ⟨by rw [m64_small _ (by omega)], rfl⟩
theorem round1 {w : World} {v0 : Value} {ob : Nat} (l : List UInt8) (r : R) (hbs : r.bs = l) (hb : Bs w v0 ob l) (hle : r.pos ≤ l.length) (hl : l.length ≤ 3000) :
    ∃ (X : Int) (G : List UInt8) (r' : R), 0 ≤ X ∧ X ≤ 65535 ∧
      (∀ W, Ext [] w W → Calls Try.prog 19 #[.agg #[v0, .int .i64 r.pos, .int .i64 r.why], .int .i64 2] W fun e w' => ∃ v2, e = .returned (.tuple #[.agg #[v0, .int .i64 r'.pos, .int .i64 r'.why], v2]) ∧ NewB W w' v2 G ∧ Ext [] W w') ∧
      (∀ W b orb own, RdAt W b orb own r → Calls Try.prog 21 #[.pointer (some ⟨b, 0, none⟩)] W fun e w' => e = .returned (.int .u16 X) ∧ RdAt w' b orb own r' ∧ Ext [b] W w') ∧
      (∀ W v o, Bs W v o G → Calls Try.prog 25 #[v] W fun e w' => e = .returned (.int .u64 X) ∧ w' = W) ∧
      r'.pos ≤ l.length ∧ r'.bs = l := by
  have hgl : (r.got (2 : Nat)).length ≤ 2 := by rcases R.got_length r 2 with h | h <;> omega
  rw [show ((2 : Nat) : Int) = 2 from rfl] at hgl
  have hw : weigh (r.got 2) < 256 ^ 2 := Nat.lt_of_lt_of_le (weigh_lt _) (Nat.pow_le_pow_right (by decide) hgl)
  have e : (256 : Nat) ^ 2 = 65535 + 1 := by decide
  have hle' : (r.go 2).pos ≤ l.length ∧ (r.go 2).bs = l := by
    cases h : r.bad 2
    · obtain ⟨g1, g2, g3, g4⟩ := R.go_good h
      rw [g4, hbs] at *
      exact ⟨by dsimp only; omega, rfl⟩
    · obtain ⟨g1, g2, g3⟩ := R.go_bad h
      rw [g1, g2]; exact ⟨hle, hbs⟩
  refine ⟨weigh (r.got 2), r.got 2, r.go 2, by omega, by omega, ?_, ?_, ?_, hle'⟩
  · intro W hE
    refine (rRaw_any W v0 ob r 2 (by rw [hbs]; exact hb.ext hE (by simp)) (by rw [hbs]; exact hle) (by rw [hbs]; omega) (by omega)).mono ?_
    rintro e w' ⟨v2, h1, h2, h3⟩
    exact ⟨v2, h1, h2, h3⟩
  · intro W b orb own h
    exact U16_any W b orb own r h
  · intro W v o h
    refine (Weighs_any W v o _ h (by omega)).mono ?_
    rintro e w' ⟨rfl, rfl⟩
    exact ⟨by rw [m64_small _ (by omega)], rfl⟩
theorem round2 {w : World} {v0 : Value} {ob : Nat} (l : List UInt8) (r : R) (hbs : r.bs = l) (hb : Bs w v0 ob l) (hle : r.pos ≤ l.length) (hl : l.length ≤ 3000) :
    ∃ (X : Int) (G : List UInt8) (r' : R), 0 ≤ X ∧ X ≤ 4294967295 ∧
      (∀ W, Ext [] w W → Calls Try.prog 19 #[.agg #[v0, .int .i64 r.pos, .int .i64 r.why], .int .i64 4] W fun e w' => ∃ v2, e = .returned (.tuple #[.agg #[v0, .int .i64 r'.pos, .int .i64 r'.why], v2]) ∧ NewB W w' v2 G ∧ Ext [] W w') ∧
      (∀ W b orb own, RdAt W b orb own r → Calls Try.prog 22 #[.pointer (some ⟨b, 0, none⟩)] W fun e w' => e = .returned (.int .u32 X) ∧ RdAt w' b orb own r' ∧ Ext [b] W w') ∧
      (∀ W v o, Bs W v o G → Calls Try.prog 25 #[v] W fun e w' => e = .returned (.int .u64 X) ∧ w' = W) ∧
      r'.pos ≤ l.length ∧ r'.bs = l := by
  have hgl : (r.got (4 : Nat)).length ≤ 4 := by rcases R.got_length r 4 with h | h <;> omega
  rw [show ((4 : Nat) : Int) = 4 from rfl] at hgl
  have hw : weigh (r.got 4) < 256 ^ 4 := Nat.lt_of_lt_of_le (weigh_lt _) (Nat.pow_le_pow_right (by decide) hgl)
  have e : (256 : Nat) ^ 4 = 4294967295 + 1 := by decide
  have hle' : (r.go 4).pos ≤ l.length ∧ (r.go 4).bs = l := by
    cases h : r.bad 4
    · obtain ⟨g1, g2, g3, g4⟩ := R.go_good h
      rw [g4, hbs] at *
      exact ⟨by dsimp only; omega, rfl⟩
    · obtain ⟨g1, g2, g3⟩ := R.go_bad h
      rw [g1, g2]; exact ⟨hle, hbs⟩
  refine ⟨weigh (r.got 4), r.got 4, r.go 4, by omega, by omega, ?_, ?_, ?_, hle'⟩
  · intro W hE
    refine (rRaw_any W v0 ob r 4 (by rw [hbs]; exact hb.ext hE (by simp)) (by rw [hbs]; exact hle) (by rw [hbs]; omega) (by omega)).mono ?_
    rintro e w' ⟨v2, h1, h2, h3⟩
    exact ⟨v2, h1, h2, h3⟩
  · intro W b orb own h
    exact U32_any W b orb own r h
  · intro W v o h
    refine (Weighs_any W v o _ h (by omega)).mono ?_
    rintro e w' ⟨rfl, rfl⟩
    exact ⟨by rw [m64_small _ (by omega)], rfl⟩
theorem round3 {w : World} {v0 : Value} {ob : Nat} (l : List UInt8) (r : R) (hbs : r.bs = l) (hb : Bs w v0 ob l) (hle : r.pos ≤ l.length) (hl : l.length ≤ 3000) :
    ∃ (X : Int) (G : List UInt8) (r' : R), 0 ≤ X ∧ X ≤ 18446744073709551615 ∧
      (∀ W, Ext [] w W → Calls Try.prog 19 #[.agg #[v0, .int .i64 r.pos, .int .i64 r.why], .int .i64 8] W fun e w' => ∃ v2, e = .returned (.tuple #[.agg #[v0, .int .i64 r'.pos, .int .i64 r'.why], v2]) ∧ NewB W w' v2 G ∧ Ext [] W w') ∧
      (∀ W b orb own, RdAt W b orb own r → Calls Try.prog 23 #[.pointer (some ⟨b, 0, none⟩)] W fun e w' => e = .returned (.int .u64 X) ∧ RdAt w' b orb own r' ∧ Ext [b] W w') ∧
      (∀ W v o, Bs W v o G → Calls Try.prog 25 #[v] W fun e w' => e = .returned (.int .u64 X) ∧ w' = W) ∧
      r'.pos ≤ l.length ∧ r'.bs = l := by
  have hgl : (r.got (8 : Nat)).length ≤ 8 := by rcases R.got_length r 8 with h | h <;> omega
  rw [show ((8 : Nat) : Int) = 8 from rfl] at hgl
  have hw : weigh (r.got 8) < 256 ^ 8 := Nat.lt_of_lt_of_le (weigh_lt _) (Nat.pow_le_pow_right (by decide) hgl)
  have e : (256 : Nat) ^ 8 = 18446744073709551615 + 1 := by decide
  have hle' : (r.go 8).pos ≤ l.length ∧ (r.go 8).bs = l := by
    cases h : r.bad 8
    · obtain ⟨g1, g2, g3, g4⟩ := R.go_good h
      rw [g4, hbs] at *
      exact ⟨by dsimp only; omega, rfl⟩
    · obtain ⟨g1, g2, g3⟩ := R.go_bad h
      rw [g1, g2]; exact ⟨hle, hbs⟩
  refine ⟨weigh (r.got 8), r.got 8, r.go 8, by omega, by omega, ?_, ?_, ?_, hle'⟩
  · intro W hE
    refine (rRaw_any W v0 ob r 8 (by rw [hbs]; exact hb.ext hE (by simp)) (by rw [hbs]; exact hle) (by rw [hbs]; omega) (by omega)).mono ?_
    rintro e w' ⟨v2, h1, h2, h3⟩
    exact ⟨v2, h1, h2, h3⟩
  · intro W b orb own h
    exact U64_any W b orb own r h
  · intro W v o h
    refine (Weighs_any W v o _ h (by omega)).mono ?_
    rintro e w' ⟨rfl, rfl⟩
    exact ⟨by rw [m64_small _ (by omega)], rfl⟩

theorem round4 {w : World} {v0 : Value} {ob : Nat} (l : List UInt8) (r : R) (N : Int) (hbs : r.bs = l) (hb : Bs w v0 ob l) (hle : r.pos ≤ l.length) (hl : l.length ≤ 3000) (hN : N ≤ 9223372036854775807) :
    ∃ (G : List UInt8) (r' : R),
      (∀ W, Ext [] w W → Calls Try.prog 19 #[.agg #[v0, .int .i64 r.pos, .int .i64 r.why], .int .i64 N] W fun e w' => ∃ v2, e = .returned (.tuple #[.agg #[v0, .int .i64 r'.pos, .int .i64 r'.why], v2]) ∧ NewB W w' v2 G ∧ Ext [] W w') ∧
      (∀ W b orb own, RdAt W b orb own r → Calls Try.prog 24 #[.pointer (some ⟨b, 0, none⟩), .int .i64 N] W fun e w' => ∃ v, e = .returned v ∧ NewB W w' v G ∧ RdAt w' b orb own r' ∧ Ext [b] W w') ∧
      (∀ W v o, Bs W v o G → Calls Try.prog 25 #[v] W fun e w' => e = .returned (.int .u64 (m64 (weigh G))) ∧ w' = W) ∧
      (∀ W v v' o o', Bs W v o G → Bs W v' o' G → Calls Try.prog 14 #[v, v'] W fun e w' => e = .returned (.bool true) ∧ ∃ n, w' = W.drewN n) ∧
      r'.pos ≤ l.length ∧ r'.bs = l := by
  have hgl : (r.got N).length ≤ 3000 := by have := R.got_le r N; rw [hbs] at this; omega
  have hle' : (r.go N).pos ≤ l.length ∧ (r.go N).bs = l := by
    cases h : r.bad N
    · obtain ⟨g1, g2, g3, g4⟩ := R.go_good h
      rw [g4, hbs] at *
      exact ⟨by dsimp only; omega, rfl⟩
    · obtain ⟨g1, g2, g3⟩ := R.go_bad h
      rw [g1, g2]; exact ⟨hle, hbs⟩
  refine ⟨r.got N, r.go N, ?_, fun W b orb own h => Raw_any W b orb own r N h, ?_, ?_, hle'⟩
  · intro W hE
    refine (rRaw_any W v0 ob r N (by rw [hbs]; exact hb.ext hE (by simp)) (by rw [hbs]; exact hle) (by rw [hbs]; omega) hN).mono ?_
    rintro e w' ⟨v2, h1, h2, h3⟩
    exact ⟨v2, h1, h2, h3⟩
  · intro W v o h
    refine (Weighs_any W v o _ h (by omega)).mono ?_
    rintro e w' ⟨rfl, rfl⟩
    exact ⟨rfl, rfl⟩
  · intro W v v' o o' h h'
    refine (Same_any W v v' o o' _ _ h h' (by omega)).mono ?_
    rintro e w' ⟨rfl, hn⟩
    exact ⟨by simp, hn⟩

theorem round5 {w : World} {v0 : Value} {ob : Nat} (l : List UInt8) (r : R) (N : Int) (hbs : r.bs = l) (hb : Bs w v0 ob l) (hle : r.pos ≤ l.length) (hl : l.length ≤ 3000) :
    ∃ (X : Int) (B : Bool),
      (∀ W b orb own, RdAt W b orb own r → Calls Try.prog 17 #[.pointer (some ⟨b, 0, none⟩), .int .i64 N] W fun e w' => e = .returned (.tuple #[.int .u8 X, .bool B]) ∧ ∃ n, w' = W.drewN n) ∧
      (∀ W, Ext [] w W → Calls Try.prog 18 #[.agg #[v0, .int .i64 r.pos, .int .i64 r.why], .int .i64 N] W fun e w' => e = .returned (.tuple #[.int .u8 X, .bool B]) ∧ Ext [] W w') := by
  obtain ⟨X, B, hXB⟩ : ∃ X B, peekTuple (r.peek N) = .tuple #[.int .u8 X, .bool B] := by
    cases r.peek N <;> exact ⟨_, _, rfl⟩
  refine ⟨X, B, fun W b orb own h => ?_, fun W hE => ?_⟩
  · rw [← hXB]; exact Peek_any W b orb own r N h
  · rw [← hXB]; exact rPeek_any W v0 ob r N (by rw [hbs]; exact hb.ext hE (by simp)) (by rw [hbs]; exact hle) (by rw [hbs]; omega)

theorem roundEnd {w wr w5 w6 : World} {b orb M D : Nat} {own v0 : Value} {l G : List UInt8} {r r' : R} {X A B : Int} {v2 : Value} (hS : RS w wr b orb M D own v0 l r)
    (hE5 : Ext [] (wr.alloc (Obj.cells #[.int .i64 A, .int .i64 B] 44)) w5) (hR6 : RdAt w6 b orb own r')
    (hE6 : Ext [b] (w5.alloc (Obj.cells #[v0, .int .i64 r'.pos, .int .i64 r'.why] 41)) w6)
    (hN5 : NewB (wr.alloc (Obj.cells #[.int .i64 A, .int .i64 B] 44)) w5 v2 G)
    (hWq : ∀ W v o, Bs W v o G → Calls Try.prog 25 #[v] W fun e w' => e = .returned (.int .u64 X) ∧ w' = W)
    (hr'l : r'.pos ≤ l.length) (hr'b : r'.bs = l) (hl : l.length ≤ 3000) (hbl : b < wr.heap.size) (hMl : M < wr.heap.size) (hDl : D < wr.heap.size) (hob : orb ≠ M ∧ orb ≠ D) (hbM : b ≠ M ∧ b ≠ D ∧ M ≠ D) (hwb : w.heap.size ≤ b ∧ w.heap.size ≤ M) :
    (∀ n, Calls Try.prog 25 #[v2] (w6.drewN n) fun e w' => e = .returned (.int .u64 X) ∧ w' = w6.drewN n) ∧
    (∀ n, Calls Try.prog 26 #[.pointer (some ⟨b, 0, none⟩)] (w6.drewN n) fun e w' => e = .returned (.int .i64 r'.why) ∧ w' = w6.drewN n) ∧
    (∀ n, Calls Try.prog 27 #[.pointer (some ⟨b, 0, none⟩)] (w6.drewN n) fun e w' => e = .returned (.int .i64 ((l.length : Int) - r'.pos)) ∧ ∃ m, w' = (w6.drewN n).drewN m) ∧
    (w6.cell? ⟨w5.heap.size, 0, none⟩ = some v0 ∧ w6.cell? ⟨w5.heap.size, 1, none⟩ = some (.int .i64 r'.pos) ∧ w6.cell? ⟨w5.heap.size, 2, none⟩ = some (.int .i64 r'.why)) ∧
    (∃ u0, w6.cell? ⟨M, 0, none⟩ = some u0) ∧ (∃ u1, w6.cell? ⟨M, 1, none⟩ = some u1) ∧ (∃ u2, w6.cell? ⟨M, 2, none⟩ = some u2) ∧
    (w6.frozen? ⟨M, 0, none⟩ = false ∧ w6.frozen? ⟨M, 1, none⟩ = false ∧ w6.frozen? ⟨M, 2, none⟩ = false) ∧
    ∀ n, RS w (((((w6.drewN n).setCell ⟨M, 0, none⟩ v0).setCell ⟨M, 1, none⟩ (.int .i64 r'.pos))).setCell ⟨M, 2, none⟩ (.int .i64 r'.why)) b orb M D own v0 l r' := by
  obtain ⟨og, hBg, hog, _, _⟩ := hN5.bs' w5.heap.size (Nat.le_refl _)
  have hs5 := hE5.size
  rw [World.size_alloc] at hog hs5
  have hwr : Ext [] wr w5 := ((Ext.refl [] wr).alloc _).trans hE5
  have he : Ext [b] wr w6 := ((hwr.alloc _).mono (by simp)).trans hE6
  have hB6 : Bs w6 v2 og G := (hBg.ext ((Ext.refl [] w5).alloc _) (by simp)).ext hE6 (by simp; omega)
  have hn6 : Blk w6 w5.heap.size 41 [v0, .int .i64 r'.pos, .int .i64 r'.why] := (Blk.new w5 [v0, .int .i64 r'.pos, .int .i64 r'.why] 41).ext hE6 (by simp; omega)
  have hm6 := hS.m.ext he (by simp; omega)
  have hd6 := hS.d.ext he (by simp; omega)
  refine ⟨fun n => hWq _ v2 og hB6, fun n => ?_, fun n => ?_, ⟨hn6.cell 0, hn6.cell 1, hn6.cell 2⟩, ⟨_, hm6.cell 0⟩, ⟨_, hm6.cell 1⟩, ⟨_, hm6.cell 2⟩, ⟨hm6.frozen 0, hm6.frozen 1, hm6.frozen 2⟩, fun n => ?_⟩
  · refine (Err_any _ b orb own r' (hR6.drewN n)).mono ?_
    rintro e w' ⟨rfl, rfl⟩; exact ⟨rfl, rfl⟩
  · have := Left_any _ b orb own r' (hR6.drewN n)
    rw [hr'b] at this
    exact this
  · have hx : Ext [M] w6 (((((w6.drewN n).setCell ⟨M, 0, none⟩ v0).setCell ⟨M, 1, none⟩ (.int .i64 r'.pos))).setCell ⟨M, 2, none⟩ (.int .i64 r'.why)) :=
      ((((Ext.refl [M] w6).drewN n).setCell (by simp) _).setCell (by simp) _).setCell (by simp) _
    refine ⟨hR6.ext hx (by simp; omega) (by simp; omega), hr'b, ?_, hd6.ext hx (by simp; omega), ?_⟩
    · have := (((hm6.drewN n).set 0 v0).set 1 (.int .i64 r'.pos)).set 2 (.int .i64 r'.why)
      simpa using this
    · exact (hS.ext.trans' he (by simp; omega)).trans' hx (by simp; omega)

theorem RS.keep {w W W' : World} {b orb M D : Nat} {own v0 : Value} {l : List UInt8} {r : R} (h : RS w W b orb M D own v0 l r) (he : Ext [] W W') : RS w W' b orb M D own v0 l r :=
  ⟨h.rd.ext he (by simp) (by simp), h.bs, h.m.ext he (by simp), h.d.ext he (by simp), h.ext.trans he⟩

set_option maxRecDepth 100000 in
set_option maxHeartbeats 4000000 in
theorem walkReads (w : World) (v va : Value) (ob ab na : Nat) (l : List UInt8) (h : Bs w v ob l) (ha : Asks w va ab na) (hl : l.length ≤ 3000) (hna : na ≤ 200) :
    Calls Try.prog 4 #[v, va] w fun e w' => e = .returned (.bool true) ∧ Below w.heap.size w w' := by
  obtain ⟨av, cv, rfl⟩ := h.shape
  obtain ⟨aa, ca, rfl⟩ := ha.shape
  go_enter Try.func4, Try.ntmps4
  go_wp2_with (first
    | (go_at_call 9; refine (wakes_any _).mono ?_; rintro e w0 ⟨rfl, h0⟩)
    | (go_at_call 10; with_reducible refine (Behind_any w0 _ (.slice none 0 0) ob 0 l [] (h.ext h0 (by simp)) (.nothing' _ _) (by simp; omega)).mono ?_; rintro e w1 ⟨v1, rfl, hN1, hE1⟩; rw [List.append_nil] at hN1; have hB1 := hN1.alt 0; obtain ⟨a1, c1, rfl⟩ := hN1.shape)
    | (go_at_call 16; obtain ⟨ob1, hB1, _⟩ := hB1; refine (Read_any w1 _ ob1 l hB1 (by omega)).mono ?_; rintro e w2 ⟨b, orb, own, rfl, hR2, hb2, hb2', hb2'', hE2⟩))
  obtain ⟨X, hX1, hX2⟩ := hN1.inc
  have hMa : Ext [] w2 (w2.alloc (Obj.cells #[Value.slice av l.length cv, Value.int IntKind.i64 0, Value.int IntKind.i64 0] 41)) := (Ext.refl [] w2).alloc _
  have hM := Blk.new w2 [Value.slice av l.length cv, Value.int IntKind.i64 0, Value.int IntKind.i64 0] 41
  have hR3 := hR2.ext hMa (by simp) (by simp)
  have hbl : b < w2.heap.size := size_heap hR2.blk
  have hE3 : Ext [] w (w2.alloc (Obj.cells #[Value.slice av l.length cv, Value.int IntKind.i64 0, Value.int IntKind.i64 0] 41)) := ((h0.trans hE1).trans hE2).trans hMa
  have hI3 : l ≠ [] → ∃ g ∈ X, a1 = some ⟨g, 0, none⟩ ∧ Inc (w2.alloc (Obj.cells #[Value.slice av l.length cv, Value.int IntKind.i64 0, Value.int IntKind.i64 0] 41)) g l.length := fun hne => by
    obtain ⟨g, g1, g2, g3⟩ := hX2 hne
    exact ⟨g, g1, g2, (g3.ext hE2 (by simp)).ext hMa (by simp)⟩
  have hs0 := h0.size
  have hs1 := hE1.size
  have hs2 := hE2.size
  have hXX : ∀ g ∈ X, w.heap.size ≤ g ∧ g < w1.heap.size := fun g hg => by have := hX1 g hg; omega
  have hwX : ∀ g ∈ X, g ≠ b ∧ g ≠ orb ∧ g < w2.heap.size := fun g hg => by have := hX1 g hg; omega
  have hbM : b < w2.heap.size ∧ w.heap.size ≤ b := by omega
  generalize w2.alloc _ = W at *
  have hMs : w2.heap.size < W.heap.size := hM.lt
  generalize w2.heap.size = M at *
  clear hMa hX1 hX2 hN1 hR2 hs0 hs1 hs2 hE1 hE2 hb2 hb2' hbl hB1
  have hB0 := h
  have hA0 := ha
  clear h ha h0
  go_loopw [40] (fun i wr => ∃ k : Nat, k ≤ l.length ∧ i = .int .i64 k ∧ Ext X W wr ∧ (l ≠ [] → ∃ g ∈ X, a1 = some ⟨g, 0, none⟩ ∧ Inc wr g l.length)) (fun i _ => l.length - (intOf i).toNat)
  case atStart => exact ⟨0, by omega, rfl, Ext.refl _ _, hI3⟩
  case round =>
    obtain ⟨k, hk, rfl, hEr, hIr⟩ := hrel
    clear hI3
    by_cases hlt : k < l.length
    · obtain ⟨g, gX, rfl, hI⟩ := hIr (by rintro rfl; simp at hlt)
      obtain ⟨z, hz, hf, hz0, hz1, hnext⟩ := hI.at hlt
      clear hIr
      go_wp2
      go_roundw
      case rel => exact ⟨k + 1, by omega, by go_num, hEr.setCell (.inl gX) _, fun _ => ⟨g, gX, rfl, hnext _ (bounds_u8 (wf_bits _ _ _ _))⟩⟩
      case measure => simp [intOf]; omega
    · obtain ⟨r1, r2⟩ : RdAt wr b orb own ⟨l, 0, 0⟩ ∧ Ext [] w wr := ⟨hR3.ext hEr (fun hm => (hwX b hm).1 rfl) (fun hm => (hwX orb hm).2.1 rfl), hE3.trans' hEr (fun g hg => .inr (hXX g hg).1)⟩
      have hM2 := hM.ext hEr (fun hm => by have := (hwX M hm).2.2; omega)
      have hsz := hEr.size
      clear hIr hEr hR3 hE3 hM hXX hwX
      go_wp2
      have hDa : Ext [] wr (wr.alloc (Obj.cells #[Value.int IntKind.i64 1, Value.int IntKind.i64 2, Value.int IntKind.i64 4, Value.int IntKind.i64 8] 42)) := (Ext.refl [] wr).alloc _
      have hD := Blk.new wr [Value.int IntKind.i64 1, Value.int IntKind.i64 2, Value.int IntKind.i64 4, Value.int IntKind.i64 8] 42
      obtain ⟨orb', hob, hr3⟩ : ∃ orb', (orb' ≠ M ∧ orb' ≠ wr.heap.size) ∧ RdAt wr b orb' own ⟨l, 0, 0⟩ := by
        rcases hb2'' with hn | hlt
        · exact ⟨b + M + wr.heap.size + 1, by omega, r1.move hn (by omega)⟩
        · exact ⟨orb, by omega, r1⟩
      have hRS : RS w (wr.alloc (Obj.cells #[Value.int IntKind.i64 1, Value.int IntKind.i64 2, Value.int IntKind.i64 4, Value.int IntKind.i64 8] 42)) b orb' M wr.heap.size own (.slice av l.length cv) l ⟨l, 0, 0⟩ :=
        ⟨hr3.ext hDa (by simp) (by simp), rfl, hM2.ext hDa (by simp), hD, r2.trans hDa⟩
      have hds : b < M ∧ M < wr.heap.size ∧ w.heap.size ≤ b := by omega
      generalize wr.alloc _ = W3 at *
      generalize wr.heap.size = D at *
      clear hr3 hD hDa r1 r2 hM2 hsz hb2'' hMs hbM
      go_loopw [53] (fun i wq => ∃ (k : Nat) (r : R), k ≤ na ∧ i = .int .i64 k ∧ RS w wq b orb' M D own (.slice av l.length cv) l r) (fun i _ => na - (intOf i).toNat)
      case atStart => exact ⟨0, _, by omega, rfl, hRS⟩
      case round =>
        obtain ⟨j, r, hj, rfl, hS⟩ := hrel
        clear hRS
        by_cases hjn : j < na
        · obtain ⟨off, K, N, rfl, cK, cN, hK0, hK1, hN0, hN1⟩ := (hA0.ext hS.ext (by simp)).at j hjn
          have hb0 := hB0.ext hS.ext (by simp)
          obtain ⟨cM0, cM1, cM2⟩ : wr.cell? ⟨M, 0, none⟩ = some (.slice av l.length cv) ∧ wr.cell? ⟨M, 1, none⟩ = some (.int .i64 r.pos) ∧ wr.cell? ⟨M, 2, none⟩ = some (.int .i64 r.why) := ⟨hS.m.cell 0, hS.m.cell 1, hS.m.cell 2⟩
          obtain ⟨cD0, cD1, cD2, cD3⟩ : wr.cell? ⟨D, 0, none⟩ = some (.int .i64 1) ∧ wr.cell? ⟨D, 1, none⟩ = some (.int .i64 2) ∧ wr.cell? ⟨D, 2, none⟩ = some (.int .i64 4) ∧ wr.cell? ⟨D, 3, none⟩ = some (.int .i64 8) := ⟨hS.d.cell 0, hS.d.cell 1, hS.d.cell 2, hS.d.cell 3⟩
          have hMl : M < wr.heap.size := hS.m.lt
          have hDl : D < wr.heap.size := hS.d.lt
          have hbl : b < wr.heap.size := by omega
          have hrd := hS.rd
          have hrle : r.pos ≤ l.length := by have := hrd.le; rw [hS.bs] at this; exact this
          obtain ⟨kk, hkk, hkk0, hkk5⟩ : ∃ kk : Int, wrap64 ((IntKind.u64.wrap K).tmod 6) = kk ∧ 0 ≤ kk ∧ kk ≤ 5 := kind6 K
          have hkk6 : kk = 0 ∨ kk = 1 ∨ kk = 2 ∨ kk = 3 ∨ kk = 4 ∨ kk = 5 := by omega
          clear hkk0 hkk5 hA0
          rcases hkk6 with rfl | rfl | rfl | rfl | rfl | rfl
          · obtain ⟨X, G, r', hX0, hX1, hraw, hU, hWq, hr'l, hr'b⟩ := round0 (w := wr) (v0 := .slice av l.length cv) (ob := ob) l r hS.bs hb0 hrle hl
            go_wp2_with (first
              | (go_at_call 19; refine (hraw _ ((Ext.refl [] wr).alloc _)).mono ?_; rintro e w5 ⟨v5, rfl, hN5, hE5⟩)
              | (go_at_call 20; refine (hU (w5.alloc _) b orb' own (((hrd.ext ((Ext.refl [] wr).alloc _) (by simp) (by simp)).ext hE5 (by simp) (by simp)).ext ((Ext.refl [] w5).alloc _) (by simp) (by simp))).mono ?_; rintro e w6 ⟨rfl, hR6, hE6⟩))
            obtain ⟨hq1, hq2, hq3, ⟨p0, p1, p2⟩, ⟨u0, m0⟩, ⟨u1, m1⟩, ⟨u2, m2⟩, ⟨f0, f1, f2⟩, hfin⟩ := roundEnd (w := w) (l := l) (G := G) (X := X) hS hE5 hR6 hE6 hN5 hWq hr'l hr'b hl hbl hMl hDl hob (by omega) (by omega)
            clear hraw hU hWq hN5 hR6 hrd hS hb0 hB0 hX0 hX1 hkk hK0 hK1 hN0 hN1 cK cN cM0 cM1 cM2 cD0 cD1 cD2 cD3
            go_quiet ((first | (go_at_call 25; exact Calls.quiet_of_same (hq1 _)) | (go_at_call 26; exact Calls.quiet_of_same (hq2 _)) | (go_at_call 27; exact Calls.quiet_of (hq3 _))))
            go_wp2
            go_roundw
            case rel => exact ⟨j + 1, r', by omega, by go_num, hfin _⟩
            case measure => simp [intOf]; omega
          · obtain ⟨X, G, r', hX0, hX1, hraw, hU, hWq, hr'l, hr'b⟩ := round1 (w := wr) (v0 := .slice av l.length cv) (ob := ob) l r hS.bs hb0 hrle hl
            go_wp2_with (first
              | (go_at_call 19; refine (hraw _ ((Ext.refl [] wr).alloc _)).mono ?_; rintro e w5 ⟨v5, rfl, hN5, hE5⟩)
              | (go_at_call 21; refine (hU (w5.alloc _) b orb' own (((hrd.ext ((Ext.refl [] wr).alloc _) (by simp) (by simp)).ext hE5 (by simp) (by simp)).ext ((Ext.refl [] w5).alloc _) (by simp) (by simp))).mono ?_; rintro e w6 ⟨rfl, hR6, hE6⟩))
            obtain ⟨hq1, hq2, hq3, ⟨p0, p1, p2⟩, ⟨u0, m0⟩, ⟨u1, m1⟩, ⟨u2, m2⟩, ⟨f0, f1, f2⟩, hfin⟩ := roundEnd (w := w) (l := l) (G := G) (X := X) hS hE5 hR6 hE6 hN5 hWq hr'l hr'b hl hbl hMl hDl hob (by omega) (by omega)
            clear hraw hU hWq hN5 hR6 hrd hS hb0 hB0 hX0 hX1 hkk hK0 hK1 hN0 hN1 cK cN cM0 cM1 cM2 cD0 cD1 cD2 cD3
            go_quiet ((first | (go_at_call 25; exact Calls.quiet_of_same (hq1 _)) | (go_at_call 26; exact Calls.quiet_of_same (hq2 _)) | (go_at_call 27; exact Calls.quiet_of (hq3 _))))
            go_wp2
            go_roundw
            case rel => exact ⟨j + 1, r', by omega, by go_num, hfin _⟩
            case measure => simp [intOf]; omega
          · obtain ⟨X, G, r', hX0, hX1, hraw, hU, hWq, hr'l, hr'b⟩ := round2 (w := wr) (v0 := .slice av l.length cv) (ob := ob) l r hS.bs hb0 hrle hl
            go_wp2_with (first
              | (go_at_call 19; refine (hraw _ ((Ext.refl [] wr).alloc _)).mono ?_; rintro e w5 ⟨v5, rfl, hN5, hE5⟩)
              | (go_at_call 22; refine (hU (w5.alloc _) b orb' own (((hrd.ext ((Ext.refl [] wr).alloc _) (by simp) (by simp)).ext hE5 (by simp) (by simp)).ext ((Ext.refl [] w5).alloc _) (by simp) (by simp))).mono ?_; rintro e w6 ⟨rfl, hR6, hE6⟩))
            obtain ⟨hq1, hq2, hq3, ⟨p0, p1, p2⟩, ⟨u0, m0⟩, ⟨u1, m1⟩, ⟨u2, m2⟩, ⟨f0, f1, f2⟩, hfin⟩ := roundEnd (w := w) (l := l) (G := G) (X := X) hS hE5 hR6 hE6 hN5 hWq hr'l hr'b hl hbl hMl hDl hob (by omega) (by omega)
            clear hraw hU hWq hN5 hR6 hrd hS hb0 hB0 hX0 hX1 hkk hK0 hK1 hN0 hN1 cK cN cM0 cM1 cM2 cD0 cD1 cD2 cD3
            go_quiet ((first | (go_at_call 25; exact Calls.quiet_of_same (hq1 _)) | (go_at_call 26; exact Calls.quiet_of_same (hq2 _)) | (go_at_call 27; exact Calls.quiet_of (hq3 _))))
            go_wp2
            go_roundw
            case rel => exact ⟨j + 1, r', by omega, by go_num, hfin _⟩
            case measure => simp [intOf]; omega
          · obtain ⟨X, G, r', hX0, hX1, hraw, hU, hWq, hr'l, hr'b⟩ := round3 (w := wr) (v0 := .slice av l.length cv) (ob := ob) l r hS.bs hb0 hrle hl
            go_wp2_with (first
              | (go_at_call 19; refine (hraw _ ((Ext.refl [] wr).alloc _)).mono ?_; rintro e w5 ⟨v5, rfl, hN5, hE5⟩)
              | (go_at_call 23; refine (hU (w5.alloc _) b orb' own (((hrd.ext ((Ext.refl [] wr).alloc _) (by simp) (by simp)).ext hE5 (by simp) (by simp)).ext ((Ext.refl [] w5).alloc _) (by simp) (by simp))).mono ?_; rintro e w6 ⟨rfl, hR6, hE6⟩))
            obtain ⟨hq1, hq2, hq3, ⟨p0, p1, p2⟩, ⟨u0, m0⟩, ⟨u1, m1⟩, ⟨u2, m2⟩, ⟨f0, f1, f2⟩, hfin⟩ := roundEnd (w := w) (l := l) (G := G) (X := X) hS hE5 hR6 hE6 hN5 hWq hr'l hr'b hl hbl hMl hDl hob (by omega) (by omega)
            clear hraw hU hWq hN5 hR6 hrd hS hb0 hB0 hX0 hX1 hkk hK0 hK1 hN0 hN1 cK cN cM0 cM1 cM2 cD0 cD1 cD2 cD3
            go_quiet ((first | (go_at_call 25; exact Calls.quiet_of_same (hq1 _)) | (go_at_call 26; exact Calls.quiet_of_same (hq2 _)) | (go_at_call 27; exact Calls.quiet_of (hq3 _))))
            go_wp2
            go_roundw
            case rel => exact ⟨j + 1, r', by omega, by go_num, hfin _⟩
            case measure => simp [intOf]; omega
          · obtain ⟨G, r', hraw, hU, hWq, hSm, hr'l, hr'b⟩ := round4 (w := wr) (v0 := .slice av l.length cv) (ob := ob) l r N hS.bs hb0 hrle hl hN1
            go_wp2_with (first
              | (go_at_call 19; refine (hraw _ ((Ext.refl [] wr).alloc _)).mono ?_; rintro e w5 ⟨v5, rfl, hN5, hE5⟩)
              | (go_at_call 24; refine (hU (w5.alloc _) b orb' own (((hrd.ext ((Ext.refl [] wr).alloc _) (by simp) (by simp)).ext hE5 (by simp) (by simp)).ext ((Ext.refl [] w5).alloc _) (by simp) (by simp))).mono ?_; rintro e w6 ⟨v6, rfl, hN6, hR6, hE6⟩)
              | (go_at_call 14; obtain ⟨o5, hB5, ho5⟩ := hN5.bs; rw [World.size_alloc] at ho5; obtain ⟨o6, hB6, _⟩ := hN6.bs; refine (hSm w6 v6 v5 o6 o5 hB6 ((hB5.ext ((Ext.refl [] w5).alloc _) (by simp)).ext hE6 (by simp; omega))).mono ?_; rintro e w7 ⟨rfl, n7, rfl⟩)
              | (go_at_call 25; refine (hWq _ v6 o6 (hB6.drewN _)).mono ?_; rintro e w8 ⟨rfl, rfl⟩))
            obtain ⟨hq1, hq2, hq3, ⟨p0, p1, p2⟩, ⟨u0, m0⟩, ⟨u1, m1⟩, ⟨u2, m2⟩, ⟨f0, f1, f2⟩, hfin⟩ := roundEnd (w := w) (l := l) (G := G) (X := m64 (weigh G)) hS hE5 (hR6.drewN n7) (hE6.drewN n7) hN5 hWq hr'l hr'b hl hbl hMl hDl hob (by omega) (by omega)
            generalize m64 (weigh G) = X at *
            generalize w6.drewN n7 = W6 at *
            clear hraw hU hWq hSm hN5 hN6 hR6 hrd hS hb0 hB0 hkk hK0 hK1 hN0 hN1 cK cN cM0 cM1 cM2 cD0 cD1 cD2 cD3
            go_quiet ((first | (go_at_call 25; exact Calls.quiet_of_same (hq1 _)) | (go_at_call 26; exact Calls.quiet_of_same (hq2 _)) | (go_at_call 27; exact Calls.quiet_of (hq3 _))))
            go_wp2
            go_roundw
            case rel => exact ⟨j + 1, r', by omega, by go_num, hfin _⟩
            case measure => simp [intOf]; omega
          · obtain ⟨X, Bb, hpk, hpr⟩ := round5 (w := wr) (v0 := .slice av l.length cv) (ob := ob) l r N hS.bs hb0 hrle hl
            go_wp2_with (first
              | (go_at_call 17; refine (hpk _ b orb' own (hrd.ext ((Ext.refl [] wr).alloc _) (by simp) (by simp))).mono ?_; rintro e w5 ⟨rfl, n5, rfl⟩)
              | (go_at_call 18; refine (hpr _ (((Ext.refl [] wr).alloc _).drewN n5)).mono ?_; rintro e w6 ⟨rfl, hE6⟩))
            go_roundw
            case rel => exact ⟨j + 1, r, by omega, by go_num, hS.keep ((((Ext.refl [] wr).alloc _).drewN n5).trans hE6)⟩
            case measure => simp [intOf]; omega
        · clear hA0 hB0
          have hbel := hS.ext.below
          clear hS
          go_wp2
          go_ret
          exact ⟨rfl, hbel⟩

/-- too long to be asked of -/
theorem walkReads_long (w : World) (a a' : Option Addr) (n c n' c' : Nat) (hn : 3000 < (n : Int) ∨ 200 < (n' : Int)) :
    Calls Try.prog 4 #[.slice a n c, .slice a' n' c'] w fun e w' => e = .returned (.bool true) ∧ Below w.heap.size w w' := by
  by_cases h1 : 3000 < (n : Int)
  · clear hn
    go_enter Try.func4, Try.ntmps4
    go_wp2_with (go_at_call 9; refine (wakes_any _).mono ?_; rintro e w0 ⟨rfl, h0⟩)
    go_ret
    exact ⟨rfl, h0.below⟩
  · have h2 : 200 < (n' : Int) := by omega
    clear hn
    go_enter Try.func4, Try.ntmps4
    go_wp2_with (go_at_call 9; refine (wakes_any _).mono ?_; rintro e w0 ⟨rfl, h0⟩)
    go_ret
    exact ⟨rfl, h0.below⟩

open Go.ChangeShapes Go.WideShapes Go.ChangeAt in
theorem walk_OctetReads {H : Type} {enc : TypeId × Value → H} (W : World) (v0 : Value) (d0 : DataW H) (p0 : List MemPlace) (base0 : Nat) (h0 : DataW.Trod enc Try.prog W 0 (fun _ => true) true 22 v0 d0 p0) (k0 : Value.okWide Try.prog W .any base0 22 v0) (v1 : Value) (d1 : DataW H) (p1 : List MemPlace) (base1 : Nat) (h1 : DataW.Trod enc Try.prog W 0 (fun _ => true) true 36 v1 d1 p1) (k1 : Value.okWide Try.prog W .any base1 36 v1) :
    Calls Try.prog 4 #[v0, v1] W fun e w' => e = .returned (.bool true) ∧ Below W.heap.size W w' := by
  obtain ⟨a, n, c, rfl, ob, l, hl, hB⟩ := read_bytes h0 k0
  obtain ⟨ab, na, hA⟩ := read_asks h1 k1
  by_cases hn : 3000 < (n : Int) ∨ 200 < (na : Int)
  · obtain ⟨a', c', rfl⟩ := hA.shape
    exact walkReads_long W a a' n c na c' hn
  · exact walkReads W _ _ ob ab na l hB hA (by omega) (by omega)

namespace octetReads
open Go.ChangeShapes Go.WideShapes Go.ChangeAt Go.RowKit
theorem own : ownKnob Try.prog.godebug = none := by kernel_rfl
theorem laidOut : laidOutB Try.prog = true := by kernel_rfl
set_option maxRecDepth 100000 in
theorem lifted (os : Os) (started : os.Started) (H : Type) (enc : TypeId × Value → H) :
    ReturnsInHanded {} Try.checked os 4 .any (Rows.octetReadsSpec.pre6 enc Try.prog Try.f4 Rows.octetReadsRow.domain false) (Rows.octetReadsSpec.post enc Try.prog Try.f4 false true false false) := by
  refine returnsInHanded_of_change (C := Try.checked) own started (by kernel_rfl) Try.func4
    (ChangeSpec.witness6 (enc := enc) (C := Try.checked) false ⟨#[], #[.slice none 0 0, .slice none 0 0], []⟩ 8 (by kernel_rfl) (by kernel_rfl) (by kernel_rfl) (by kernel_rfl)) ?_
  intro W base args ds gs before hval0 hW hcnd _
  have hval : ∀ (j : Nat) t v, Try.f4.params[j]? = some t → args[j]? = some v → Value.okWide Try.prog W .any base t v := hval0
  have hW' := hW
  obtain ⟨p, q, hA0, hV, rfl, hfz, hnd⟩ := hW
  have hA : DataW.TrodAll enc Try.prog W 0 (fun _ => true) true Try.f4.params.toList args.toList ds p := hA0
  rw [Try.params4] at hA hval
  obtain ⟨v0, vs0, d0, ds0, p0, q0, hargs, rfl, rfl, h0, r0⟩ := trodAll_cons hA
  obtain ⟨v1, vs1, d1, ds1, p1, q1, rfl, rfl, rfl, h1, r1⟩ := trodAll_cons r0
  obtain ⟨rfl, rfl, rfl⟩ := trodAll_nil r1
  obtain rfl : args = #[v0, v1] := by cases args; simp_all
  obtain ⟨rfl, rfl⟩ := trodVars_none hV
  have lt0 : ∀ x ∈ p0, x.block < W.heap.size := by obtain ⟨m, hm⟩ := h0; exact DataW.trod_lt m _ _ _ hm
  have lt1 : ∀ x ∈ p1, x.block < W.heap.size := by obtain ⟨m, hm⟩ := h1; exact DataW.trod_lt m _ _ _ hm
  have k0 := hval 0 22 v0 rfl rfl
  have k1 := hval 1 36 v1 rfl rfl
  clear hA0 hval0
  refine (walk_OctetReads W v0 d0 p0 base h0 k0 v1 d1 p1 base h1 k1).mono fun e W' ⟨he, bel⟩ => ?_
  subst he
  exact ⟨_, rfl, _, _, _, [], _, [], hW', trodAll_mk1 (shut_bool Try.underlying4 _), (trodAll_cons_mk (Below.trod laidOut (by kernel_rfl) (of_decide_eq_true (by kernel_rfl)) h0 bel lt0) (trodAll_cons_mk (Below.trod laidOut (by kernel_rfl) (of_decide_eq_true (by kernel_rfl)) h1 bel lt1) trodAll_mk0)), rfl, bel.frame _, fun h => by cases h⟩
theorem over : Rows.octetReadsRow.holds Try.pinned (OpenSpec.ofChange Rows.octetReadsSpec) :=
  OpenClaim.holds_of_wide 4 Try.f4 rfl rfl rfl rfl rfl rfl rfl ⟨rfl, rfl, rfl, rfl, rfl⟩ rfl rfl rfl rfl rfl (by kernel_rfl) Try.func4 (by kernel_rfl)
    (of_decide_eq_true (by kernel_rfl)) (by unfold Func.isWrapper; first | (rw [if_pos (by decide +kernel)]; kernel_rfl) | (rw [if_neg (by decide +kernel)]; exact ⟨rfl, rfl⟩))
    (fun os started H enc _ => lifted os started H enc)
theorem proved : Rows.OctetReadsSaid := over
#print axioms proved
end octetReads
end Go.Proofs.Ytcahdillpdekmaa
