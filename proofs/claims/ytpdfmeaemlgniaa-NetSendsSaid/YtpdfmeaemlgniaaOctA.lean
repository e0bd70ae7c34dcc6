
import Derived.Test.YtpdfmeaemlgniaaRows
import Derived.Test.YtpdfmeaemlgniaaLib
namespace Go.Proofs.Ytpdfmeaemlgniaa
open Go.RowKit
set_option linter.unusedVariables false
/-- one byte as a cell's value -/
def BV (x : UInt8) : Value := .int .u8 (x.toNat : Int)
theorem BV_one (l : List UInt8) : ∀ u ∈ l.map BV, u.oneCell' = true := by
  intro u hu; simp at hu; obtain ⟨x, _, rfl⟩ := hu; rfl

theorem T22 : SliceTy Try.prog 29 5 1 1 (.int .u8 0) := .mk' Try.underlying29 (by kernel_rfl) rfl (by decide)

/-- v reads as the bytes l, which lie in block ob -/
def Bs (w : World) (v : Value) (ob : Nat) (l : List UInt8) : Prop := Sl w v ob 1 l.length (l.map BV)
theorem Bs.ext {X : List Nat} {w w' : World} {v : Value} {ob : Nat} {l : List UInt8} (h : Bs w v ob l) (he : Ext X w w') (hx : ob ∉ X) : Bs w' v ob l := Sl.ext h he hx
theorem Bs.cases {w : World} {v : Value} {ob : Nat} {l : List UInt8} (h : Bs w v ob l) : (v = .slice none 0 0 ∧ l = []) ∨
    ∃ off sp cap, v = .slice (some ⟨ob, off, sp⟩) l.length cap ∧ l.length ≤ cap ∧ cap ≤ maxLen ∧ (l.length = 0 ∨ sp = none) ∧ ∀ j (hj : j < l.length), w.cell? ⟨ob, off + j, none⟩ = some (BV l[j]) := by
  rcases h.2 with ⟨h1, h2⟩ | ⟨off, sp, cap, h1, h2, h3, hsp, h4⟩
  · exact .inl ⟨h1, List.eq_nil_of_length_eq_zero h2⟩
  · exact .inr ⟨off, sp, cap, h1, h2, h3, hsp, fun j hj => h4 j _ (by simp [hj])⟩
theorem Bs.shape {w : World} {v : Value} {ob : Nat} {l : List UInt8} (h : Bs w v ob l) : ∃ a cap, v = .slice a l.length cap := by
  rcases h.cases with ⟨rfl, rfl⟩ | ⟨off, sp, cap, rfl, _⟩
  · exact ⟨none, 0, rfl⟩
  · exact ⟨_, _, rfl⟩
theorem Bs.at {w : World} {a : Option Addr} {n c ob : Nat} {l : List UInt8} (h : Bs w (.slice a n c) ob l) (k : Nat) (hk : k < l.length) :
    ∃ o x, a = some ⟨ob, o, none⟩ ∧ l[k]? = some x ∧ w.cell? ⟨ob, o + k, none⟩ = some (.int .u8 (x.toNat : Int)) := by
  rcases h.cases with ⟨_, rfl⟩ | ⟨off, sp, cap, hv, _, _, hsp, h3⟩
  · simp at hk
  · simp only [Value.slice.injEq] at hv
    obtain rfl : sp = none := by rcases hsp with h | h; omega; exact h
    exact ⟨off, l[k], hv.1, by simp, h3 k hk⟩
theorem Bs.drewN {w : World} {v : Value} {ob : Nat} {l : List UInt8} (h : Bs w v ob l) (n : Nat) : Bs (w.drewN n) v ob l := h
theorem Bs.mk {w : World} {ob off cap : Nat} {l : List UInt8} (h1 : l.length ≤ cap) (h2 : cap ≤ maxLen) (h : ∀ j (hj : j < l.length), w.cell? ⟨ob, off + j, none⟩ = some (BV l[j])) :
    Bs w (.slice (some ⟨ob, off, none⟩) l.length cap) ob l := by
  refine ⟨by simp, .inr ⟨off, none, cap, rfl, h1, h2, .inr rfl, fun j u hu => ?_⟩⟩
  simp only [List.getElem?_map, Option.map_eq_some_iff] at hu
  obtain ⟨x, hx, rfl⟩ := hu
  obtain ⟨hj, rfl⟩ := List.getElem?_eq_some_iff.1 hx
  exact h j hj

theorem Bs.nothing' (w : World) (ob : Nat) : Bs w (.slice none 0 0) ob [] := .nil _ _ _
theorem Bs.nothing (w : World) (ob off c : Nat) (h : c ≤ maxLen) : Bs w (.slice (some ⟨ob, off, none⟩) 0 c) ob [] :=
  Bs.mk (l := []) (Nat.zero_le _) h (by simp)
theorem Bs.empty {w : World} {ob off c : Nat} {sp : Option Nat} (h : c ≤ maxLen) : Bs w (.slice (some ⟨ob, off, sp⟩) 0 c) ob [] :=
  ⟨by simp, .inr ⟨off, sp, c, rfl, Nat.zero_le _, h, .inl rfl, fun j u hu => by simp at hu⟩⟩
theorem Bs.cut1 {w : World} {a : Option Addr} {n c ob pos m : Nat} {l : List UInt8} (h : Bs w (.slice a n c) ob l) (hm : pos + m ≤ l.length) :
    Bs w (.slice (a.map fun x => x.add pos) m (c - pos)) ob ((l.drop pos).take m) := by
  rcases h.cases with ⟨h1, rfl⟩ | ⟨off, sp, cap, hv, hle, hmx, hsp, h3⟩
  · simp only [Value.slice.injEq] at h1
    obtain ⟨rfl, rfl, rfl⟩ := h1
    obtain rfl : m = 0 := by simp at hm; omega
    simpa using Bs.nothing' w ob
  · simp only [Value.slice.injEq] at hv
    obtain ⟨rfl, rfl, rfl⟩ := hv
    rcases hsp with h0 | rfl
    · obtain rfl : pos = 0 := by omega
      obtain rfl : m = 0 := by omega
      simpa [Addr.add] using Bs.empty (w := w) (ob := ob) (off := off) (sp := sp) hmx
    · simp only [Option.map_some, add_off]
      have hl : ((l.drop pos).take m).length = m := by simp; omega
      have := Bs.mk (w := w) (ob := ob) (off := off + pos) (cap := c - pos) (l := (l.drop pos).take m) (by omega) (by omega) (fun j hj => by
        have := h3 (pos + j) (by omega)
        simpa [Nat.add_assoc] using this)
      rwa [hl] at this
theorem Bs.cut0 {w : World} {a : Option Addr} {n c ob pos m : Nat} {l : List UInt8} (h : Bs w (.slice a n c) ob l) (hm : pos + m ≤ l.length) (hc : c = pos) : Bs w (.slice a m 0) ob ((l.drop pos).take m) := by
  rcases h.cases with ⟨h1, rfl⟩ | ⟨off, sp, cap, hv, hle, _, _, _⟩
  · simp only [Value.slice.injEq] at h1
    obtain ⟨rfl, rfl, rfl⟩ := h1
    obtain rfl : m = 0 := by simp at hm; omega
    simpa using Bs.nothing' w ob
  · simp only [Value.slice.injEq] at hv
    obtain ⟨rfl, rfl, rfl⟩ := hv
    obtain rfl : m = 0 := by omega
    simpa using Bs.empty (w := w) (ob := ob) (off := off) (sp := sp) (c := 0) (by decide)

/-- what is handed back is nil, or lies in a new block, and is the call's own -/
def NewB (w w' : World) (v : Value) (l : List UInt8) : Prop := w'.ownsRow w.heap.size 5 1 v l.length (l.map BV)

set_option maxHeartbeats 400000 in
theorem clone_nil (w : World) :
    Calls Try.prog 65 #[.slice none 0 0] w fun e w' => e = .returned (.slice none 0 0) ∧ w = w' := by
  have hn := fun (w : World) => Lib.run_eql_slice_nil (P := Try.prog) w 29
  go_enter Try.func65, Try.ntmps65
  go_wp2

  go_ret
  exact ⟨rfl, rfl⟩
set_option maxHeartbeats 400000 in
theorem clone_some (w : World) (v : Value) (ob : Nat) (l : List UInt8) (h : Bs w v ob l) (hv : v ≠ .slice none 0 0) (hl : l.length ≤ 70000000000000) :
    Calls Try.prog 65 #[v] w fun e w' => ∃ v', e = .returned v' ∧ NewB w w' v' l ∧ Ext [] w w' := by
  have hB : ∀ o, Bs (w.alloc o) v ob l := fun o => h.ext ((Ext.refl [] w).alloc o) (by simp)
  rcases h.cases with ⟨rfl, _⟩ | ⟨off, sp, cap, rfl, h1, h2, _, h3⟩
  · exact absurd rfl hv
  have hn := fun (w : World) => Lib.run_eql_slice_nil (P := Try.prog) w 29 5 (some ⟨ob, off, sp⟩) l.length cap 0 0 Try.underlying29
  clear hv h3
  go_enter Try.func65, Try.ntmps65
  go_wp2_with (at_builtin; refine wpList_append_sl T22 rfl _ _ rfl rfl (World.ownsRow_lit (base := w.heap.size) _ _ 0 (Nat.le_refl _) (by decide) rfl) rfl (ob := ob) (m := l.length) (news := l.map BV) (hB _) (BV_one l) (by unfold maxLen; omega) (by omega) (by simp) ?_; intro v1 w1 ho he)
  go_ret
  have he' : Ext [w.heap.size] (w.alloc (Obj.cells #[] 5)) w1 := he
  exact ⟨_, rfl, by simpa [NewB] using ho, ((Ext.refl [] w).alloc _).trans' he' (by simp)⟩

/-- bytes.Clone -/
theorem clone_any (w : World) (v : Value) (ob : Nat) (l : List UInt8) (h : Bs w v ob l) (hl : l.length ≤ 70000000000000) :
    Calls Try.prog 65 #[v] w fun e w' => ∃ v', e = .returned v' ∧ NewB w w' v' l ∧ Ext [] w w' := by
  by_cases hv : v = .slice none 0 0
  · subst hv
    refine (clone_nil w).mono ?_
    rintro e w' ⟨rfl, rfl⟩
    rcases h.cases with ⟨_, rfl⟩ | ⟨off, sp, cap, h1, _⟩
    · exact ⟨_, rfl, World.ownsRow_nil _ _ _ _, Ext.refl _ _⟩
    · simp at h1
  · exact clone_some w v ob l h hv hl
/-! ## the reader -/

/-- what a reader is: its bytes, its place, why it is done for -/
structure R where
  bs : List UInt8
  pos : Nat
  why : Int

def R.bad (r : R) (n : Int) : Bool := r.why != 0 || n < 0 || (r.bs.length : Int) - r.pos < n
def R.go (r : R) (n : Int) : R :=
  if r.why ≠ 0 then r else if n < 0 then { r with why := 2 } else if (r.bs.length : Int) - r.pos < n then { r with why := 7 } else { r with pos := r.pos + n.toNat }
def R.got (r : R) (n : Int) : List UInt8 := if r.bad n then [] else (r.bs.drop r.pos).take n.toNat

/-- the place struct and the own bytes of a reader, in block b -/
def RdBlk (w : World) (b : Nat) (at_ fin : Int) (why : Int) (own : Value) : Prop :=
  w.heap[b]? = some (.cells #[.int .i64 at_, .int .i64 fin, .int .i64 why, own] 105 (0, 0))

structure RdAt (w : World) (b ob : Nat) (vo : Value) (r : R) : Prop where
  blk : RdBlk w b r.pos r.bs.length r.why vo
  own : Bs w vo ob r.bs
  ne : ob ≠ b
  sp : ∀ ad n c, vo = .slice (some ad) n c → ad.spot = none
  le : r.pos ≤ r.bs.length
  small : r.bs.length ≤ 1000000

theorem RdAt.ext {X : List Nat} {w w' : World} {b ob : Nat} {own : Value} {r : R} (h : RdAt w b ob own r) (he : Ext X w w') (hb : b ∉ X) (ho : ob ∉ X) : RdAt w' b ob own r :=
  ⟨he.heap h.blk hb, h.own.ext he ho, h.ne, h.sp, h.le, h.small⟩

theorem RdAt.set {w w' : World} {b ob : Nat} {own : Value} {r r' : R} (h : RdAt w b ob own r) (i : Nat) (u : Value) (n : Nat) (hb : r'.bs = r.bs) (hl : r'.pos ≤ r'.bs.length) (hw : w' = (w.setCell ⟨b, i, none⟩ u).drewN n)
    (hc : (#[.int .i64 r.pos, .int .i64 r.bs.length, .int .i64 r.why, own] : Array Value).setIfInBounds i u = #[.int .i64 r'.pos, .int .i64 r'.bs.length, .int .i64 r'.why, own]) :
    RdAt w' b ob own r' ∧ Ext [b] w w' := by
  subst hw
  have he : Ext [b] w ((w.setCell ⟨b, i, none⟩ u).drewN n) := (((Ext.refl [b] w).setCell (by simp) u).drewN n)
  refine ⟨⟨?_, ?_, h.ne, h.sp, hl, by rw [hb]; exact h.small⟩, he⟩
  · show ((w.setCell ⟨b, i, none⟩ u).drewN n).heap[b]? = _
    rw [drewN_heap, set_cell_heap h.blk, hc]
  · rw [hb]; exact h.own.ext he (by simp [h.ne])

set_option maxHeartbeats 400000 in
theorem ahead_any (w : World) (b : Nat) (at_ fin why : Int) (own : Value) (h : RdBlk w b at_ fin why own) (h0 : 0 ≤ at_) (h1 : at_ ≤ fin) (h2 : fin ≤ 9223372036854775807) :
    Calls Try.prog 89 #[.pointer (some ⟨b, 0, none⟩)] w fun e w' => e = .returned (.int .i64 (fin - at_)) ∧ ∃ n, w' = w.drewN n := by
  have c0 : w.cell? ⟨b, 0, none⟩ = some (.int .i64 at_) := cell_of_heap h 0
  have c1 : w.cell? ⟨b, 1, none⟩ = some (.int .i64 fin) := cell_of_heap h 1
  clear h
  go_enter Try.func89, Try.ntmps89
  go_wp2
  go_quiet (fail)
  go_wp2
  go_ret
  exact ⟨rfl, _, rfl⟩

set_option maxHeartbeats 400000 in
theorem step_bad (w : World) (b : Nat) (at_ fin why n : Int) (own : Value) (h : RdBlk w b at_ fin why own) (hw : why ≠ 0) :
    Calls Try.prog 88 #[.pointer (some ⟨b, 0, none⟩), .int .i64 n] w fun e w' => e = .returned (.tuple #[.int .i64 0, .bool false]) ∧ w = w' := by
  have c2 : w.cell? ⟨b, 2, none⟩ = some (.int .i64 why) := cell_of_heap h 2
  have e1 : (why == 0) = false := by simpa using hw
  have e2 : (why != 0) = true := by simpa using hw
  clear h hw
  go_enter Try.func88, Try.ntmps88
  go_wp2
  go_ret2
  exact ⟨rfl, rfl⟩

set_option maxHeartbeats 400000 in
theorem step_neg (w : World) (b : Nat) (at_ fin n : Int) (own : Value) (h : RdBlk w b at_ fin 0 own) (hn : n < 0) :
    Calls Try.prog 88 #[.pointer (some ⟨b, 0, none⟩), .int .i64 n] w fun e w' => e = .returned (.tuple #[.int .i64 0, .bool false]) ∧ w' = w.setCell ⟨b, 2, none⟩ (.int .i64 2) := by
  have c2 : w.cell? ⟨b, 2, none⟩ = some (.int .i64 0) := cell_of_heap h 2
  have f2 : w.frozen? ⟨b, 2, none⟩ = false := frozen_of_heap h 2
  clear h
  go_enter Try.func88, Try.ntmps88
  go_wp2
  go_ret2
  exact ⟨rfl, rfl⟩
set_option maxHeartbeats 400000 in
theorem step_short (w : World) (b : Nat) (at_ fin n : Int) (own : Value) (h : RdBlk w b at_ fin 0 own) (h0 : 0 ≤ at_) (h1 : at_ ≤ fin) (h2 : fin ≤ 9223372036854775807) (hn : fin - at_ < n) :
    Calls Try.prog 88 #[.pointer (some ⟨b, 0, none⟩), .int .i64 n] w fun e w' => e = .returned (.tuple #[.int .i64 0, .bool false]) ∧ ∃ k, w' = (w.setCell ⟨b, 2, none⟩ (.int .i64 7)).drewN k := by
  have c2 : w.cell? ⟨b, 2, none⟩ = some (.int .i64 0) := cell_of_heap h 2
  have f2 : w.frozen? ⟨b, 2, none⟩ = false := frozen_of_heap h 2
  go_enter Try.func88, Try.ntmps88
  go_wp2_with (go_at_call 89; refine (ahead_any w b at_ fin 0 own h h0 h1 h2).mono ?_; rintro e w' ⟨rfl, nq, rfl⟩)
  go_ret2
  exact ⟨rfl, _, rfl⟩
set_option maxHeartbeats 400000 in
theorem step_ok (w : World) (b : Nat) (at_ fin n : Int) (own : Value) (h : RdBlk w b at_ fin 0 own) (h0 : 0 ≤ at_) (h1 : at_ ≤ fin) (h2 : fin ≤ 9223372036854775807) (hn : n ≤ fin - at_) (hn0 : 0 ≤ n) :
    Calls Try.prog 88 #[.pointer (some ⟨b, 0, none⟩), .int .i64 n] w fun e w' => e = .returned (.tuple #[.int .i64 at_, .bool true]) ∧ ∃ k, w' = (w.setCell ⟨b, 0, none⟩ (.int .i64 (at_ + n))).drewN k := by
  have c2 : w.cell? ⟨b, 2, none⟩ = some (.int .i64 0) := cell_of_heap h 2
  have c0 : w.cell? ⟨b, 0, none⟩ = some (.int .i64 at_) := cell_of_heap h 0
  have f0 : w.frozen? ⟨b, 0, none⟩ = false := frozen_of_heap h 0
  go_enter Try.func88, Try.ntmps88
  go_wp2_with (go_at_call 89; refine (ahead_any w b at_ fin 0 own h h0 h1 h2).mono ?_; rintro e w' ⟨rfl, nq, rfl⟩)
  go_ret2
  exact ⟨rfl, _, rfl⟩

theorem R.go_bad {r : R} {n : Int} (h : r.bad n = true) : (r.go n).pos = r.pos ∧ (r.go n).bs = r.bs ∧ (r.go n).why ≠ 0 := by
  unfold R.bad at h; unfold R.go
  by_cases h1 : r.why = 0
  · by_cases h2 : n < 0
    · simp [h1, h2]
    · have : (r.bs.length : Int) - r.pos < n := by simpa [h1, h2] using h
      simp [h1, h2, this]
  · simp [h1]
theorem R.go_good {r : R} {n : Int} (h : r.bad n = false) : r.why = 0 ∧ 0 ≤ n ∧ n ≤ (r.bs.length : Int) - r.pos ∧ r.go n = { r with pos := r.pos + n.toNat } := by
  unfold R.bad at h; unfold R.go
  simp only [Bool.or_eq_false_iff, bne_eq_false_iff_eq, decide_eq_false_iff_not] at h
  obtain ⟨⟨h1, h2⟩, h3⟩ := h
  exact ⟨h1, by omega, by omega, by simp [h1, h2, h3]⟩

/-- (*place).step -/
theorem step_any (w : World) (b ob : Nat) (own : Value) (r : R) (n : Int) (h : RdAt w b ob own r) :
    Calls Try.prog 88 #[.pointer (some ⟨b, 0, none⟩), .int .i64 n] w fun e w' =>
      e = .returned (.tuple #[.int .i64 (if r.bad n then 0 else r.pos), .bool (!r.bad n)]) ∧ RdAt w' b ob own (r.go n) ∧ Ext [b] w w' := by
  have hb := h.blk
  have hle := h.le
  have hsm := h.small
  obtain ⟨bs, pos, why⟩ := r
  dsimp only at *
  by_cases h1 : why = 0
  · subst h1
    by_cases h2 : n < 0
    · refine (step_neg w b _ _ n own hb h2).mono ?_
      rintro e w' ⟨rfl, hw⟩
      exact ⟨by simp [R.bad, h2], h.set 2 _ 0 (by simp [R.go, h2]) (by simp [R.go, h2, hle]) hw (by simp [R.go, h2])⟩
    · by_cases h3 : (bs.length : Int) - pos < n
      · refine (step_short w b _ _ n own hb (by omega) (by omega) (by omega) h3).mono ?_
        rintro e w' ⟨rfl, k, hw⟩
        exact ⟨by simp [R.bad, h3], h.set 2 _ k (by simp [R.go, h2, h3]) (by simp [R.go, h2, h3, hle]) hw (by simp [R.go, h2, h3])⟩
      · refine (step_ok w b _ _ n own hb (by omega) (by omega) (by omega) (by omega) (by omega)).mono ?_
        rintro e w' ⟨rfl, k, hw⟩
        refine ⟨by simp [R.bad, h2, h3], h.set 0 _ k (by simp [R.go, h2, h3]) (by simp [R.go, h2, h3]; omega) hw (by simp [R.go, h2, h3]; omega)⟩
  · refine (step_bad w b _ _ why n own hb h1).mono ?_
    rintro e w' ⟨rfl, rfl⟩
    have : ({ bs, pos, why } : R).go n = { bs, pos, why } := by simp [R.go, h1]
    rw [this]
    exact ⟨by simp [R.bad, h1], h, Ext.refl _ _⟩

theorem next_bad (w : World) (b ob : Nat) (own : Value) (r : R) (n : Int) (h : RdAt w b ob own r) (hb : r.bad n = true) :
    Calls Try.prog 83 #[.pointer (some ⟨b, 0, none⟩), .int .i64 n] w fun e w' => e = .returned (.slice none 0 0) ∧ RdAt w' b ob own (r.go n) ∧ Ext [b] w w' := by
  have hs := step_any w b ob own r n h
  rw [hb] at hs
  clear hb
  go_enter Try.func83, Try.ntmps83
  go_wp2_with (go_at_call 88; refine hs.mono ?_; rintro e w' ⟨rfl, hr, he⟩)
  go_ret
  exact ⟨rfl, hr, he⟩

set_option maxHeartbeats 400000 in
theorem next_good (w : World) (b ob : Nat) (own : Value) (r : R) (n : Int) (h : RdAt w b ob own r) (hb : r.bad n = false) :
    Calls Try.prog 83 #[.pointer (some ⟨b, 0, none⟩), .int .i64 n] w fun e w' => ∃ v,
      e = .returned v ∧ Bs w' v ob (r.got n) ∧ RdAt w' b ob own (r.go n) ∧ Ext [b] w w' := by
  have hs := step_any w b ob own r n h
  have hsm := h.small
  have hle := h.le
  have hgot : r.got n = (r.bs.drop r.pos).take n.toNat := by simp [R.got, hb]
  obtain ⟨g1, g2, g3, g4⟩ := R.go_good hb
  have hs' : Calls Try.prog 88 #[.pointer (some ⟨b, 0, none⟩), .int .i64 n] w fun e w' =>
      e = .returned (.tuple #[.int .i64 r.pos, .bool true]) ∧ w'.cell? ⟨b, 3, none⟩ = some own ∧ Hid (RdAt w' b ob own (r.go n)) ∧ Ext [b] w w' := by
    refine hs.mono ?_
    rintro e w' ⟨rfl, hr, he⟩
    exact ⟨by simp [hb], cell_of_heap hr.blk 3, hr, he⟩
  have hown : Bs w own ob r.bs := h.own
  have hne : ob ∉ [b] := by simp [h.ne]
  have hRd : ∀ w', Hid (RdAt w' b ob own (r.go n)) → RdAt w' b ob own (r.go n) := fun _ h => h
  rw [hgot]
  clear hgot hs
  have hpp : (r.go n).bs = r.bs := by rw [g4]
  obtain ⟨bs, pos, why⟩ := r
  dsimp only at *
  obtain ⟨m, rfl⟩ := Int.eq_ofNat_of_zero_le g2
  have hspo := h.sp
  rcases hown.cases with ⟨rfl, rfl⟩ | ⟨off, sp, cap, rfl, h1, h2, _, h3⟩
  · clear hspo
    simp only [List.length_nil] at *
    obtain rfl : pos = 0 := by omega
    obtain rfl : m = 0 := by omega
    generalize hG : R.go _ _ = G at *
    clear hG g4 h hpp
    go_enter Try.func83, Try.ntmps83
    go_wp2_with (go_at_call 88; refine hs'.mono ?_; rintro e w' ⟨rfl, hc, hr, he⟩)
    go_ret
    exact ⟨_, rfl, .nil _ _ _, hRd _ hr, he⟩
  · obtain rfl : sp = none := hspo _ _ _ rfl
    clear hspo
    generalize hG : R.go _ _ = G at *
    clear hG g4 h
    have hm : maxLen = 9223372036854775807 := rfl
    rw [hm] at h2
    go_enter Try.func83, Try.ntmps83
    go_wp2_with (go_at_call 88; refine hs'.mono ?_; rintro e w' ⟨rfl, hc, hr, he⟩)
    · obtain rfl : m = 0 := by omega
      go_ret
      exact ⟨_, rfl, .nothing _ _ _ _ (by decide), by subst h; exact hr.out, he⟩
    · have hcut := (hown.ext he hne).cut1 (pos := pos) (m := m) (by omega)
      simp only [Option.map_some, add_off] at hcut
      go_ret
      exact ⟨_, rfl, hcut, hr.out, he⟩

/-- (*Reader).next -/
theorem next_any (w : World) (b ob : Nat) (own : Value) (r : R) (n : Int) (h : RdAt w b ob own r) :
    Calls Try.prog 83 #[.pointer (some ⟨b, 0, none⟩), .int .i64 n] w fun e w' => ∃ v,
      e = .returned v ∧ Bs w' v ob (r.got n) ∧ RdAt w' b ob own (r.go n) ∧ Ext [b] w w' := by
  cases hb : r.bad n
  · exact next_good w b ob own r n h hb
  · refine (next_bad w b ob own r n h hb).mono ?_
    rintro e w' ⟨rfl, hr, he⟩
    exact ⟨_, rfl, by simp only [R.got, hb]; exact .nil _ _ _, hr, he⟩
end Go.Proofs.Ytpdfmeaemlgniaa
