/-
  PROVED: bowspritlaw01.OctetWeighs: for all bytes and every number the call returns true: Put16, Put32, Put64 lay the document's bytes behind the given ones, which are not touched. No condition.
-/
import Derived.Test.YtcahdillpdekmaaOctG
import Derived.OpenShut
import Derived.ChangeOld
namespace Go.Proofs.Ytcahdillpdekmaa
open Go.RowKit
set_option linter.unusedVariables false

/-- at the head of round k of the law's loop -/
structure WS (w W : World) (k c oo gt g3 g4 g5 : Nat) (vo vt v3 v4 v5 : Value) (l : List UInt8) (x : Nat) : Prop where
  arr : Blk W c 31 [v3, v4, v5]
  own : Bs W vo oo l
  tail : Bs W vt gt (l ++ eight)
  p3 : k ≤ 0 → OwnB W v3 g3 (l ++ be 2 x)
  p4 : k ≤ 1 → OwnB W v4 g4 (l ++ be 4 x)
  p5 : k ≤ 2 → OwnB W v5 g5 (l ++ be 8 x)
  ext : Ext [] w W

theorem keepS {wr W0 w6 : World} {a : Addr} {v : Value} (h : W0.cell? a = some v ∧ Ext [] wr W0) (he : Ext [] W0 w6) : w6.cell? a = some v ∧ Ext [] wr w6 := ⟨he.read h.1 (by simp), h.2.trans he⟩

theorem WS.next0 {w W W' : World} {c oo gt g3 g4 g5 : Nat} {vo vt v3 v4 v5 : Value} {l : List UInt8} {x : Nat} (h : WS w W 0 c oo gt g3 g4 g5 vo vt v3 v4 v5 l x) (he : Ext [g3] W W')
    (h1 : oo < g3 ∧ gt < g3) (h2 : g3 < c) (h3 : w.heap.size ≤ g3) (h4 : g3 < g4) (h5 : g4 < g5) : WS w W' 1 c oo gt g3 g4 g5 vo vt v3 v4 v5 l x :=
  ⟨h.arr.ext he (by simp; omega), h.own.ext he (by simp; omega), h.tail.ext he (by simp; omega), fun hk => by omega, fun _ => (h.p4 (by omega)).ext he (by simp; omega), fun _ => (h.p5 (by omega)).ext he (by simp; omega), h.ext.trans' he (by simp; omega)⟩
theorem WS.next1 {w W W' : World} {c oo gt g3 g4 g5 : Nat} {vo vt v3 v4 v5 : Value} {l : List UInt8} {x : Nat} (h : WS w W 1 c oo gt g3 g4 g5 vo vt v3 v4 v5 l x) (he : Ext [g4] W W')
    (h1 : oo < g4 ∧ gt < g4) (h2 : g4 < c) (h3 : w.heap.size ≤ g4) (h4 : g3 < g4) (h5 : g4 < g5) : WS w W' 2 c oo gt g3 g4 g5 vo vt v3 v4 v5 l x :=
  ⟨h.arr.ext he (by simp; omega), h.own.ext he (by simp; omega), h.tail.ext he (by simp; omega), fun hk => by omega, fun hk => by omega, fun _ => (h.p5 (by omega)).ext he (by simp; omega), h.ext.trans' he (by simp; omega)⟩
theorem WS.next2 {w W W' : World} {c oo gt g3 g4 g5 : Nat} {vo vt v3 v4 v5 : Value} {l : List UInt8} {x : Nat} (h : WS w W 2 c oo gt g3 g4 g5 vo vt v3 v4 v5 l x) (he : Ext [g5] W W')
    (h1 : oo < g5 ∧ gt < g5) (h2 : g5 < c) (h3 : w.heap.size ≤ g5) (h4 : g3 < g4) (h5 : g4 < g5) : WS w W' 3 c oo gt g3 g4 g5 vo vt v3 v4 v5 l x :=
  ⟨h.arr.ext he (by simp; omega), h.own.ext he (by simp; omega), h.tail.ext he (by simp; omega), fun hk => by omega, fun hk => by omega, fun hk => by omega, h.ext.trans' he (by simp; omega)⟩

set_option maxHeartbeats 4000000 in
theorem walkWeighs (w : World) (v : Value) (ob : Nat) (l : List UInt8) (h : Bs w v ob l) (x : Nat) (hx : (x : Int) ≤ 18446744073709551615) (hl : l.length ≤ 3000) :
    Calls Try.prog 3 #[v, .int .u64 (x : Int)] w fun e w' => e = .returned (.bool true) ∧ Below w.heap.size w w' := by
  obtain ⟨av, cv, rfl⟩ := h.shape
  have hx0 : 0 ≤ (x : Int) := by omega
  go_enter Try.func3, Try.ntmps3
  go_wp2_with (first
    | (go_at_call 9; refine (wakes_any _).mono ?_; rintro e w0 ⟨rfl, h0⟩)
    | (go_at_call 10; with_reducible refine (Behind_any w0 _ (.slice none 0 0) ob 0 l [] (h.ext h0 (by simp)) (.nothing' _ _) (by simp; omega)).mono ?_; rintro e w1 ⟨v1, rfl, hN1, hE1⟩; rw [List.append_nil] at hN1; have hB1 := hN1.alt; obtain ⟨a1, c1, rfl⟩ := hN1.shape)
    | (go_at_call 10; refine (Behind_any (w1.alloc _) _ _ ob _ l eight ((h.ext h0 (by simp)).ext (hE1.alloc _) (by simp)) (eight_lit w1) (by simp [eight]; omega)).mono ?_; rintro e w2 ⟨v2, rfl, hN2, hE2⟩; obtain ⟨gt, hO2, hg2, hg2'⟩ := hN2.own (by simp [eight]); obtain ⟨c2, hc2, hv2, hh2⟩ := hO2.head; have hv2' : v2 = .slice (some ⟨gt, 0, none⟩) (l.length + 8) c2 := hv2; clear hv2; subst hv2'; have ha2 : (c2 : Int) ≥ l.length := by omega)
    | (go_at_call 11; with_reducible refine (Put16_own w2 _ gt l x _ (w16 x) hh2 (by omega)).mono ?_; rintro e w3 ⟨g3, c3, rfl, hO3, hg3, hg3', hE3⟩)
    | (go_at_call 12; with_reducible refine (Put32_own w3 _ gt l x _ (w32 x) (hh2.ext hE3 (by simp)) (by omega)).mono ?_; rintro e w4 ⟨g4, c4, rfl, hO4, hg4, hg4', hE4⟩)
    | (go_at_call 13; with_reducible refine (Put64_own w4 _ gt l x _ (w64 x hx) ((hh2.ext hE3 (by simp)).ext hE4 (by simp)) (by omega)).mono ?_; rintro e w5 ⟨g5, c5, rfl, hO5, hg5, hg5', hE5⟩))
  obtain ⟨oo, hBo, hoo⟩ := hB1 gt
  rw [World.size_alloc] at hg2
  have hE15 : Ext [] w1 w5 := ((((Ext.refl [] w1).alloc _).trans hE2).trans hE3 |>.trans hE4).trans hE5
  have hEw5 : Ext [] w w5 := (h0.trans hE1).trans hE15
  have hs1 := hE2.size
  have hs3 := hE3.size
  have hs4 := hE4.size
  have hs5 := hE5.size
  rw [World.size_alloc] at hs1
  have hWarr := Blk.new w5 [.slice (some ⟨g3, 0, none⟩) (l.length + 2) c3, .slice (some ⟨g4, 0, none⟩) (l.length + 4) c4, .slice (some ⟨g5, 0, none⟩) (l.length + 8) c5] 31
  have hWe : Ext [] w5 (w5.alloc (Obj.cells #[Value.slice (some ⟨g3, 0, none⟩) (l.length + 2) c3, Value.slice (some ⟨g4, 0, none⟩) (l.length + 4) c4, Value.slice (some ⟨g5, 0, none⟩) (l.length + 8) c5] 31)) := (Ext.refl [] w5).alloc _
  have hst : WS w (w5.alloc (Obj.cells #[Value.slice (some ⟨g3, 0, none⟩) (l.length + 2) c3, Value.slice (some ⟨g4, 0, none⟩) (l.length + 4) c4, Value.slice (some ⟨g5, 0, none⟩) (l.length + 8) c5] 31)) 0 w5.heap.size oo gt g3 g4 g5 (.slice a1 l.length c1) (.slice (some ⟨gt, 0, none⟩) (l.length + 8) c2) (.slice (some ⟨g3, 0, none⟩) (l.length + 2) c3) (.slice (some ⟨g4, 0, none⟩) (l.length + 4) c4) (.slice (some ⟨g5, 0, none⟩) (l.length + 8) c5) l x :=
    ⟨hWarr, (hBo.ext hE15 (by simp)).ext hWe (by simp), (((hO2.bs.ext hE3 (by simp)).ext hE4 (by simp)).ext hE5 (by simp)).ext hWe (by simp),
      fun _ => ((hO3.ext hE4 (by simp)).ext hE5 (by simp)).ext hWe (by simp), fun _ => (hO4.ext hE5 (by simp)).ext hWe (by simp), fun _ => hO5.ext hWe (by simp), hEw5.trans hWe⟩
  have hw5 : w.heap.size ≤ w1.heap.size := (h0.trans hE1).size
  have hdis : oo < g3 ∧ gt < g3 ∧ g3 < g4 ∧ g4 < g5 ∧ g5 < w5.heap.size ∧ w.heap.size ≤ g3 := by omega
  generalize w5.alloc _ = W at *
  generalize w5.heap.size = c at *
  clear hWarr hWe hE15 hEw5 hs1 hs3 hs4 hs5 hg2 hg2' hg3 hg3' hg4 hg4' hg5 hg5' hO2 hO3 hO4 hO5 hE1 hE2 hE3 hE4 hE5 hN1 hN2 hB1 hBo hoo h0 h hh2 hw5
  go_loopw [39] (fun i wr => ∃ k : Nat, k ≤ 3 ∧ i = .int .i64 k ∧ WS w wr k c oo gt g3 g4 g5 (.slice a1 l.length c1) (.slice (some ⟨gt, 0, none⟩) (l.length + 8) c2) (.slice (some ⟨g3, 0, none⟩) (l.length + 2) c3) (.slice (some ⟨g4, 0, none⟩) (l.length + 4) c4) (.slice (some ⟨g5, 0, none⟩) (l.length + 8) c5) l x) (fun i _ => 3 - (intOf i).toNat)
  case atStart => exact ⟨0, by omega, rfl, hst⟩
  case round =>
    obtain ⟨k, hk, rfl, hS⟩ := hrel
    clear hst
    have hk3 : k = 0 ∨ k = 1 ∨ k = 2 ∨ k = 3 := by omega
    have i0 : ∀ w, (Instr.index 32 (.agg #[.int .i64 2, .int .i64 4, .int .i64 8]) (.int .i64 0)).run Try.prog w = .ok (.int .i64 2) w := fun _ => by kernel_rfl
    have i1 : ∀ w, (Instr.index 32 (.agg #[.int .i64 2, .int .i64 4, .int .i64 8]) (.int .i64 1)).run Try.prog w = .ok (.int .i64 4) w := fun _ => by kernel_rfl
    have i2 : ∀ w, (Instr.index 32 (.agg #[.int .i64 2, .int .i64 4, .int .i64 8]) (.int .i64 2)).run Try.prog w = .ok (.int .i64 8) w := fun _ => by kernel_rfl
    rcases hk3 with rfl | rfl | rfl | rfl
    · have hc0 : wr.cell? ⟨c, 0, none⟩ = some (.slice (some ⟨g3, 0, none⟩) (l.length + 2) c3) := hS.arr.cell 0
      have hown := hS.own
      have hO := hS.p3 (by omega)
      go_wp2
      go_region_held3 (fun w' => w'.cell? ⟨c, 0, none⟩ = some (.slice (some ⟨g3, 0, none⟩) (l.length + 2) c3) ∧ Ext [] wr w')
        (first | exact ⟨hc0, (Ext.refl [] wr).drew⟩ | assumption)
        (first
          | (go_at_call 15; refine (Bytes_any _ x 2 hx (by omega)).mono ?_; rintro e w6 ⟨v6, rfl, hN6, hE6⟩; have hs6 : w6.cell? ⟨c, 0, none⟩ = some (.slice (some ⟨g3, 0, none⟩) (l.length + 2) c3) ∧ Ext [] wr w6 := keepS (by assumption) hE6)
          | (go_at_call 10; obtain ⟨o6, hb6, _⟩ := hN6.bs; refine (Behind_any w6 _ _ oo o6 l (be 2 x) (hown.ext hs6.2 (by simp)) hb6 (by simp [be_length]; omega)).mono ?_; rintro e w7 ⟨v7, rfl, hN7, hE7⟩; have hs7 : w7.cell? ⟨c, 0, none⟩ = some (.slice (some ⟨g3, 0, none⟩) (l.length + 2) c3) ∧ Ext [] wr w7 := keepS (by assumption) hE7)
          | (go_at_call 14; obtain ⟨o7, hb7, _⟩ := hN7.bs; refine (Same_any w7 _ _ g3 o7 (l ++ be 2 x) (l ++ be 2 x) (hO.bs.ext hs7.2 (by simp)) hb7 (by simp [be_length]; omega)).mono ?_; rintro e w8 ⟨rfl, n8, rfl⟩; have hs8 : (w7.drewN n8).cell? ⟨c, 0, none⟩ = some (.slice (some ⟨g3, 0, none⟩) (l.length + 2) c3) ∧ Ext [] wr (w7.drewN n8) := ⟨hs7.1, hs7.2.drewN n8⟩))
      go_wp2
      obtain ⟨hs81, hs82⟩ := hs8
      have hI : Inc (w7.drewN n8) g3 (l.length + 2) := Inc.of (by simp [be_length]) (hO.ext hs82 (by simp))
      generalize w7.drewN n8 = W8 at *
      clear hO hb6 hb7 hN6 hN7 hE6 hE7 hs6 hs7
      go_loopw [57] (fun j wi => ∃ m : Nat, m ≤ l.length + 2 ∧ j = .int .i64 m ∧ Inc wi g3 (l.length + 2) ∧ Ext [g3] W8 wi) (fun j _ => l.length + 2 - (intOf j).toNat)
      case atStart => exact ⟨0, by omega, rfl, hI, Ext.refl _ _⟩
      case round =>
        obtain ⟨m, hm, rfl, hIm, hEm⟩ := hrel
        by_cases hlm : m < l.length + 2
        · have hcw := hEm.read hs81 (by simp; omega)
          obtain ⟨z, hz, hf, hz0, hz1, hnext⟩ := hIm.at hlm
          clear hs81 hc0 i0 i1 i2
          go_wp2
          go_roundw
          case rel => exact ⟨m + 1, by omega, by go_num, hnext _ (by omega), hEm.setCell (by simp) _⟩
          case measure => simp [intOf]; omega
        · clear hs81 hc0 i0 i1 i2
          have hS' := hS.next0 ((Ext.mono hs82 (by simp)).trans hEm) (by omega) (by omega) (by omega) (by omega) (by omega)
          go_wp2
          go_roundw
          case rel => exact ⟨0 + 1, by omega, by go_num, hS'⟩
          case measure => simp [intOf]
    · have hc0 : wr.cell? ⟨c, 1, none⟩ = some (.slice (some ⟨g4, 0, none⟩) (l.length + 4) c4) := hS.arr.cell 1
      have hown := hS.own
      have hO := hS.p4 (by omega)
      go_wp2
      go_region_held3 (fun w' => w'.cell? ⟨c, 1, none⟩ = some (.slice (some ⟨g4, 0, none⟩) (l.length + 4) c4) ∧ Ext [] wr w')
        (first | exact ⟨hc0, (Ext.refl [] wr).drew⟩ | assumption)
        (first
          | (go_at_call 15; refine (Bytes_any _ x 4 hx (by omega)).mono ?_; rintro e w6 ⟨v6, rfl, hN6, hE6⟩; have hs6 : w6.cell? ⟨c, 1, none⟩ = some (.slice (some ⟨g4, 0, none⟩) (l.length + 4) c4) ∧ Ext [] wr w6 := keepS (by assumption) hE6)
          | (go_at_call 10; obtain ⟨o6, hb6, _⟩ := hN6.bs; refine (Behind_any w6 _ _ oo o6 l (be 4 x) (hown.ext hs6.2 (by simp)) hb6 (by simp [be_length]; omega)).mono ?_; rintro e w7 ⟨v7, rfl, hN7, hE7⟩; have hs7 : w7.cell? ⟨c, 1, none⟩ = some (.slice (some ⟨g4, 0, none⟩) (l.length + 4) c4) ∧ Ext [] wr w7 := keepS (by assumption) hE7)
          | (go_at_call 14; obtain ⟨o7, hb7, _⟩ := hN7.bs; refine (Same_any w7 _ _ g4 o7 (l ++ be 4 x) (l ++ be 4 x) (hO.bs.ext hs7.2 (by simp)) hb7 (by simp [be_length]; omega)).mono ?_; rintro e w8 ⟨rfl, n8, rfl⟩; have hs8 : (w7.drewN n8).cell? ⟨c, 1, none⟩ = some (.slice (some ⟨g4, 0, none⟩) (l.length + 4) c4) ∧ Ext [] wr (w7.drewN n8) := ⟨hs7.1, hs7.2.drewN n8⟩))
      go_wp2
      obtain ⟨hs81, hs82⟩ := hs8
      have hI : Inc (w7.drewN n8) g4 (l.length + 4) := Inc.of (by simp [be_length]) (hO.ext hs82 (by simp))
      generalize w7.drewN n8 = W8 at *
      clear hO hb6 hb7 hN6 hN7 hE6 hE7 hs6 hs7
      go_loopw [57] (fun j wi => ∃ m : Nat, m ≤ l.length + 4 ∧ j = .int .i64 m ∧ Inc wi g4 (l.length + 4) ∧ Ext [g4] W8 wi) (fun j _ => l.length + 4 - (intOf j).toNat)
      case atStart => exact ⟨0, by omega, rfl, hI, Ext.refl _ _⟩
      case round =>
        obtain ⟨m, hm, rfl, hIm, hEm⟩ := hrel
        by_cases hlm : m < l.length + 4
        · have hcw := hEm.read hs81 (by simp; omega)
          obtain ⟨z, hz, hf, hz0, hz1, hnext⟩ := hIm.at hlm
          clear hs81 hc0 i0 i1 i2
          go_wp2
          go_roundw
          case rel => exact ⟨m + 1, by omega, by go_num, hnext _ (by omega), hEm.setCell (by simp) _⟩
          case measure => simp [intOf]; omega
        · clear hs81 hc0 i0 i1 i2
          have hS' := hS.next1 ((Ext.mono hs82 (by simp)).trans hEm) (by omega) (by omega) (by omega) (by omega) (by omega)
          go_wp2
          go_roundw
          case rel => exact ⟨1 + 1, by omega, by go_num, hS'⟩
          case measure => simp [intOf]
    · have hc0 : wr.cell? ⟨c, 2, none⟩ = some (.slice (some ⟨g5, 0, none⟩) (l.length + 8) c5) := hS.arr.cell 2
      have hown := hS.own
      have hO := hS.p5 (by omega)
      go_wp2
      go_region_held3 (fun w' => w'.cell? ⟨c, 2, none⟩ = some (.slice (some ⟨g5, 0, none⟩) (l.length + 8) c5) ∧ Ext [] wr w')
        (first | exact ⟨hc0, (Ext.refl [] wr).drew⟩ | assumption)
        (first
          | (go_at_call 15; refine (Bytes_any _ x 8 hx (by omega)).mono ?_; rintro e w6 ⟨v6, rfl, hN6, hE6⟩; have hs6 : w6.cell? ⟨c, 2, none⟩ = some (.slice (some ⟨g5, 0, none⟩) (l.length + 8) c5) ∧ Ext [] wr w6 := keepS (by assumption) hE6)
          | (go_at_call 10; obtain ⟨o6, hb6, _⟩ := hN6.bs; refine (Behind_any w6 _ _ oo o6 l (be 8 x) (hown.ext hs6.2 (by simp)) hb6 (by simp [be_length]; omega)).mono ?_; rintro e w7 ⟨v7, rfl, hN7, hE7⟩; have hs7 : w7.cell? ⟨c, 2, none⟩ = some (.slice (some ⟨g5, 0, none⟩) (l.length + 8) c5) ∧ Ext [] wr w7 := keepS (by assumption) hE7)
          | (go_at_call 14; obtain ⟨o7, hb7, _⟩ := hN7.bs; refine (Same_any w7 _ _ g5 o7 (l ++ be 8 x) (l ++ be 8 x) (hO.bs.ext hs7.2 (by simp)) hb7 (by simp [be_length]; omega)).mono ?_; rintro e w8 ⟨rfl, n8, rfl⟩; have hs8 : (w7.drewN n8).cell? ⟨c, 2, none⟩ = some (.slice (some ⟨g5, 0, none⟩) (l.length + 8) c5) ∧ Ext [] wr (w7.drewN n8) := ⟨hs7.1, hs7.2.drewN n8⟩))
      go_wp2
      obtain ⟨hs81, hs82⟩ := hs8
      have hI : Inc (w7.drewN n8) g5 (l.length + 8) := Inc.of (by simp [be_length]) (hO.ext hs82 (by simp))
      generalize w7.drewN n8 = W8 at *
      clear hO hb6 hb7 hN6 hN7 hE6 hE7 hs6 hs7
      go_loopw [57] (fun j wi => ∃ m : Nat, m ≤ l.length + 8 ∧ j = .int .i64 m ∧ Inc wi g5 (l.length + 8) ∧ Ext [g5] W8 wi) (fun j _ => l.length + 8 - (intOf j).toNat)
      case atStart => exact ⟨0, by omega, rfl, hI, Ext.refl _ _⟩
      case round =>
        obtain ⟨m, hm, rfl, hIm, hEm⟩ := hrel
        by_cases hlm : m < l.length + 8
        · have hcw := hEm.read hs81 (by simp; omega)
          obtain ⟨z, hz, hf, hz0, hz1, hnext⟩ := hIm.at hlm
          clear hs81 hc0 i0 i1 i2
          go_wp2
          go_roundw
          case rel => exact ⟨m + 1, by omega, by go_num, hnext _ (by omega), hEm.setCell (by simp) _⟩
          case measure => simp [intOf]; omega
        · clear hs81 hc0 i0 i1 i2
          have hS' := hS.next2 ((Ext.mono hs82 (by simp)).trans hEm) (by omega) (by omega) (by omega) (by omega) (by omega)
          go_wp2
          go_roundw
          case rel => exact ⟨2 + 1, by omega, by go_num, hS'⟩
          case measure => simp [intOf]
    · have hown := hS.own
      have ht := hS.tail
      clear i0 i1 i2
      go_wp2_with (first
        | (go_at_call 10; refine (Behind_any (wr.alloc _) _ _ oo _ l eight (hown.ext ((Ext.refl [] wr).alloc _) (by simp)) (eight_lit wr) (by simp [eight]; omega)).mono ?_; rintro e w6 ⟨v6, rfl, hN6, hE6⟩)
        | (go_at_call 14; obtain ⟨o6, hb6, _⟩ := hN6.bs; refine (Same_any w6 _ _ gt o6 (l ++ eight) (l ++ eight) (ht.ext (((Ext.refl [] wr).alloc _).trans hE6) (by simp)) hb6 (by simp [eight]; omega)).mono ?_; rintro e w8 ⟨rfl, n8, rfl⟩))
      go_ret
      exact ⟨ret_bool (by simp), (((hS.ext.alloc _).trans hE6).drewN n8).below⟩

/-- too long to be asked of -/
theorem walkWeighs_long (w : World) (a : Option Addr) (n c : Nat) (x : Int) (hn : 3000 < (n : Int)) :
    Calls Try.prog 3 #[.slice a n c, .int .u64 x] w fun e w' => e = .returned (.bool true) ∧ Below w.heap.size w w' := by
  go_enter Try.func3, Try.ntmps3
  go_wp2_with (go_at_call 9; refine (wakes_any _).mono ?_; rintro e w0 ⟨rfl, h0⟩)
  go_ret
  exact ⟨rfl, h0.below⟩


open Go.ChangeShapes Go.WideShapes Go.ChangeAt in
theorem walk_OctetWeighs {H : Type} {enc : TypeId × Value → H} (W : World) (v0 : Value) (d0 : DataW H) (p0 : List MemPlace) (base0 : Nat) (h0 : DataW.Trod enc Try.prog W 0 (fun _ => true) true 22 v0 d0 p0) (k0 : Value.okWide Try.prog W .any base0 22 v0) (v1 : Value) (d1 : DataW H) (p1 : List MemPlace) (base1 : Nat) (h1 : DataW.Trod enc Try.prog W 0 (fun _ => true) true 23 v1 d1 p1) (k1 : Value.okWide Try.prog W .any base1 23 v1) :
    Calls Try.prog 3 #[v0, v1] W fun e w' => e = .returned (.bool true) ∧ Below W.heap.size W w' := by
  obtain ⟨x, rfl, rfl, rfl, w1⟩ := open_int Try.underlying23 k1 h1
  obtain ⟨hx0, hx1⟩ := bounds_u64 w1
  obtain ⟨a, n, c, rfl, ob, l, hl, hB⟩ := read_bytes h0 k0
  by_cases hn : 3000 < (n : Int)
  · exact walkWeighs_long W a n c x hn
  · obtain ⟨y, rfl⟩ := Int.eq_ofNat_of_zero_le hx0
    exact walkWeighs W _ ob l hB y hx1 (by omega)

namespace octetWeighs
open Go.ChangeShapes Go.WideShapes Go.ChangeAt Go.RowKit
theorem own : ownKnob Try.prog.godebug = none := by kernel_rfl
theorem laidOut : laidOutB Try.prog = true := by kernel_rfl
set_option maxRecDepth 100000 in
theorem lifted (os : Os) (started : os.Started) (H : Type) (enc : TypeId × Value → H) :
    ReturnsInHanded {} Try.checked os 3 .any (Rows.octetWeighsSpec.pre6 enc Try.prog Try.f3 Rows.octetWeighsRow.domain false) (Rows.octetWeighsSpec.post enc Try.prog Try.f3 false true false false) := by
  refine returnsInHanded_of_change (C := Try.checked) own started (by kernel_rfl) Try.func3
    (ChangeSpec.witness6 (enc := enc) (C := Try.checked) false ⟨#[], #[.slice none 0 0, .int .u64 0], []⟩ 8 (by kernel_rfl) (by kernel_rfl) (by kernel_rfl) (by kernel_rfl)) ?_
  intro W base args ds gs before hval0 hW hcnd _
  have hval : ∀ (j : Nat) t v, Try.f3.params[j]? = some t → args[j]? = some v → Value.okWide Try.prog W .any base t v := hval0
  have hW' := hW
  obtain ⟨p, q, hA0, hV, rfl, hfz, hnd⟩ := hW
  have hA : DataW.TrodAll enc Try.prog W 0 (fun _ => true) true Try.f3.params.toList args.toList ds p := hA0
  rw [Try.params3] at hA hval
  obtain ⟨v0, vs0, d0, ds0, p0, q0, hargs, rfl, rfl, h0, r0⟩ := trodAll_cons hA
  obtain ⟨v1, vs1, d1, ds1, p1, q1, rfl, rfl, rfl, h1, r1⟩ := trodAll_cons r0
  obtain ⟨rfl, rfl, rfl⟩ := trodAll_nil r1
  obtain rfl : args = #[v0, v1] := by cases args; simp_all
  obtain ⟨rfl, rfl⟩ := trodVars_none hV
  have lt0 : ∀ x ∈ p0, x.block < W.heap.size := by obtain ⟨m, hm⟩ := h0; exact DataW.trod_lt m _ _ _ hm
  have lt1 : ∀ x ∈ p1, x.block < W.heap.size := by obtain ⟨m, hm⟩ := h1; exact DataW.trod_lt m _ _ _ hm
  have k0 := hval 0 22 v0 rfl rfl
  have k1 := hval 1 23 v1 rfl rfl
  clear hA0 hval0
  refine (walk_OctetWeighs W v0 d0 p0 base h0 k0 v1 d1 p1 base h1 k1).mono fun e W' ⟨he, bel⟩ => ?_
  subst he
  exact ⟨_, rfl, _, _, _, [], _, [], hW', trodAll_mk1 (shut_bool Try.underlying4 _), (trodAll_cons_mk (Below.trod laidOut (by kernel_rfl) (of_decide_eq_true (by kernel_rfl)) h0 bel lt0) (trodAll_cons_mk (Below.trod laidOut (by kernel_rfl) (of_decide_eq_true (by kernel_rfl)) h1 bel lt1) trodAll_mk0)), rfl, bel.frame _, fun h => by cases h⟩
theorem over : Rows.octetWeighsRow.holds Try.pinned (OpenSpec.ofChange Rows.octetWeighsSpec) :=
  OpenClaim.holds_of_wide 3 Try.f3 rfl rfl rfl rfl rfl rfl rfl ⟨rfl, rfl, rfl, rfl, rfl⟩ rfl rfl rfl rfl rfl (by kernel_rfl) Try.func3 (by kernel_rfl)
    (of_decide_eq_true (by kernel_rfl)) (by unfold Func.isWrapper; first | (rw [if_pos (by decide +kernel)]; kernel_rfl) | (rw [if_neg (by decide +kernel)]; exact ⟨rfl, rfl⟩))
    (fun os started H enc _ => lifted os started H enc)
theorem proved : Rows.OctetWeighsSaid := over
#print axioms proved
end octetWeighs
end Go.Proofs.Ytcahdillpdekmaa
