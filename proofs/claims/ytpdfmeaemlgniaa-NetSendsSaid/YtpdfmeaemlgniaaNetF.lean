/-
  What becomes of a copy of a net by what is done to it: changed, changedAt.
-/
import Derived.Test.YtpdfmeaemlgniaaNetE
namespace Go.Proofs.Ytpdfmeaemlgniaa
open Go.RowKit
set_option linter.unusedVariables false
abbrev pt (b : Nat) : Value := .pointer (some ⟨b, 0, none⟩)
abbrev zNV : Value := .agg #[.int .u64 0, .slice none 0 0]
/-- just the block b, those from S on, and those of C were written -/
def Did (S b : Nat) (C : List Nat) (W w' : World) : Prop := ∃ X, Ext X W w' ∧ ∀ k ∈ X, k = b ∨ S ≤ k ∨ k ∈ C
theorem Did.ofExt {S b : Nat} {C : List Nat} {W w' : World} (h : Ext [] W w') : Did S b C W w' := ⟨[], h, by simp⟩
theorem Did.trans {S b : Nat} {C : List Nat} {a w w' : World} (h : Did S b C a w) (k : Did S b C w w') : Did S b C a w' := by
  obtain ⟨X, h1, h2⟩ := h
  obtain ⟨Y, h3, h4⟩ := k
  refine ⟨X ++ Y, (h1.mono (by simp +contextual)).trans (h3.mono (by simp +contextual)), fun i hi => ?_⟩
  rcases List.mem_append.1 hi with hi | hi
  · exact h2 i hi
  · exact h4 i hi
theorem Did.cell {S b : Nat} {C : List Nat} {W w' : World} (p : Nat) (i : Nat) (u : Value) (h : Did S b C W w') (hp : p = b ∨ S ≤ p ∨ p ∈ C) : Did S b C W (w'.setCell ⟨p, i, none⟩ u) :=
  h.trans ⟨[p], (Ext.refl [p] w').setCell (p := ⟨p, i, none⟩) (.inl (by simp)) u, by simpa using hp⟩
/-- of what lay there it wrote C alone -/
theorem Did.old {S b : Nat} {C : List Nat} {w W w' : World} (h : Did S b C W w') (hE : Ext [] w W) (hb : w.heap.size ≤ b) (hS : w.heap.size ≤ S) : Ext C w w' := by
  obtain ⟨X, h1, h2⟩ := h
  refine (hE.mono (Y := C) (by simp)).trans' h1 fun i hi => ?_
  rcases h2 i hi with rfl | h | h
  · exact .inr hb
  · exact .inr (by omega)
  · exact .inl h
theorem Did.blk {S b : Nat} {C : List Nat} {W w' : World} {g : Nat} {e : TypeId} {cs : List Value} (h : Did S b C W w') (hg : Blk W g e cs) (h1 : g ≠ b) (h2 : g < S) (h3 : g ∉ C) : Blk w' g e cs := by
  obtain ⟨X, h4, h5⟩ := h
  exact hg.ext h4 fun m => by rcases h5 g m with h | h | h; exact h1 h; omega; exact h3 h
/-- behind w1 nothing was written but nets that are new in w0, and what is new -/
def NetX (w0 w1 w' : World) : Prop := ∃ X, Ext X w1 w' ∧ ∀ k ∈ X, w0.heap.size ≤ k ∧ (w1.heap.size ≤ k ∨ ∃ cs, Blk w1 k 25 cs)
theorem NetX.ofExt {w0 w1 w' : World} (h : Ext [] w1 w') : NetX w0 w1 w' := ⟨[], h, by simp⟩
theorem NetX.trans {w0 a b c : World} (h : NetX w0 a b) (k : NetX w0 b c) : NetX w0 a c := by
  obtain ⟨X, h1, h2⟩ := h
  obtain ⟨Y, h3, h4⟩ := k
  refine ⟨X ++ Y, (h1.mono (by simp +contextual)).trans (h3.mono (by simp +contextual)), fun i hi => ?_⟩
  rcases List.mem_append.1 hi with hi | hi
  · exact h2 i hi
  · obtain ⟨h5, h6⟩ := h4 i hi
    refine ⟨h5, ?_⟩
    by_cases hl : a.heap.size ≤ i
    · exact .inl hl
    · right
      have hsz := h1.size
      rcases h6 with h6 | ⟨cs, h6⟩
      · omega
      · by_cases hx : i ∈ X
        · rcases (h2 i hx).2 with h7 | h7
          · omega
          · exact h7
        · exact ⟨cs, by unfold Blk at *; rw [← h1.block i (by omega) hx]; exact h6⟩
theorem NetX.cells {w0 w1 w' : World} {g : Nat} {cs : List Value} (h : NetX w0 w1 w') (hb : Blk w' g 25 cs) (hg : w0.heap.size ≤ g) {w2 : World} (he : Ext [g] w' w2) : NetX w0 w1 w2 :=
  h.trans ⟨[g], he, fun k hk => by
    obtain rfl : k = g := by simpa using hk
    exact ⟨hg, .inr ⟨cs, hb⟩⟩⟩
theorem NetX.wide {w0 w00 w1 w' : World} (h : NetX w0 w1 w') (hs : w00.heap.size ≤ w0.heap.size) : NetX w00 w1 w' := by
  obtain ⟨X, h1, h2⟩ := h
  exact ⟨X, h1, fun k hk => ⟨by have := (h2 k hk).1; omega, (h2 k hk).2⟩⟩
theorem NetX.old {C : List Nat} {w0 w1 w' : World} (h : NetX w0 w1 w') (hE : Ext C w0 w1) : Ext C w0 w' := by
  obtain ⟨X, h1, h2⟩ := h
  exact hE.trans' h1 fun i hi => .inr (h2 i hi).1
theorem OPs.nets {A : Nat} {w0 w w' : World} {v : Value} {l : List Par} {rs : List PRaw} (h : OPs A w v l rs) (hn : NetX w0 w w') : OPs A w' v l rs := by
  obtain ⟨X, he, hX⟩ := hn
  have go : ∀ {e size n : Nat} {u : Value} {xs : List Value}, e ≠ 25 → w.ownsRow A e size u n xs → ∀ k, u.ownBlock = some k → k ∉ X := by
    intro e size n u xs hne ho k hk m
    obtain ⟨_, hlt, cs', hh⟩ := own_block ho hk
    rcases (hX k m).2 with h7 | ⟨cs, h7⟩
    · omega
    · unfold Blk at h7
      rw [h7] at hh; cases hh; exact hne rfl
  exact ⟨own_ext h.own he (go (by decide) h.own), ⟨h.all.1, fun k r p k1 k2 => (h.all.2 k r p k1 k2).keep he (go (by decide) (h.all.2 k r p k1 k2).2.2.2.2)⟩, h.sep⟩
/-- what 'changed' answers: D tells of the net that was changed -/
def Changed (w : World) (R : Bool) (E : Int) (C : List Nat) (D : Nat → Value → World → Prop) : Ending → World → Prop := fun e w' =>
  (R = false → e = .returned (.tuple #[zNV, .int .i64 340]) ∧ Ext [] w w') ∧
  (R = true → ∃ w1 s' v', NetX w w1 w' ∧ Ext C w w1 ∧ (∃ a' n' c', v' = .slice a' n' c') ∧ D s' v' w1 ∧ e = .returned (.tuple #[if E = 0 then NV s' v' else zNV, .int .i64 E]))
set_option maxRecDepth 100000 in
set_option maxHeartbeats 4000000 in
theorem changed_Send (w : World) (s : Nat) (v : Value) (l : List Par) (hP : Ps w v l) (caps : Array Value) (E : Int) (C : List Nat) (hC : ∀ k ∈ C, k < w.heap.size) (D : Nat → Value → World → Prop)
    (hd : right ⟨s, l⟩ = true → ∀ W vv rs, Ext [] w W → Blk W w.heap.size 25 [.int .u64 (s : Int), vv] → w.heap.size + 2 ≤ W.heap.size → OPs (w.heap.size + 2) W vv l rs →
      Calls Try.prog 51 (#[pt w.heap.size] ++ caps) W fun e w' => ∃ (s' : Nat) (v' : Value), (∃ a' n' c', v' = .slice a' n' c') ∧ e = .returned (.int .i64 E) ∧ Blk w' w.heap.size 25 [.int .u64 (s' : Int), v'] ∧ D s' v' w' ∧ Did (w.heap.size + 2) w.heap.size C W w') :
    Calls Try.prog 50 #[NV s v, .func (.func 51) #[] caps] w (Changed w (right ⟨s, l⟩) E C D) := by
  obtain ⟨a, c, rfl⟩ := hP.shape
  have hE1 := (Ext.refl [] w).alloc (.cells #[.int .u64 (s : Int), .slice a l.length c] 25)
  have hE2 := (Ext.refl [] (w.alloc (.cells #[.int .u64 (s : Int), .slice a l.length c] 25))).alloc (.cells #[.int .u64 0, .slice none 0 0] 25)
  have hE := hE1.trans hE2
  have hN := (Blk.new w [.int .u64 (s : Int), .slice a l.length c] 25).ext hE2 (by simp)
  have hR := Blk.new (w.alloc (.cells #[.int .u64 (s : Int), .slice a l.length c] 25)) [.int .u64 0, .slice none 0 0] 25
  simp only [World.size_alloc] at hR
  have hP := hP.ext hE
  have hsz : ((w.alloc (.cells #[.int .u64 (s : Int), .slice a l.length c] 25)).alloc (.cells #[.int .u64 0, .slice none 0 0] 25)).heap.size = w.heap.size + 2 := by simp
  clear hE1 hE2
  have ck := Check_any ((w.alloc (.cells #[.int .u64 (s : Int), .slice a l.length c] 25)).alloc (.cells #[.int .u64 0, .slice none 0 0] 25)) s _ l hP
  cases hr : right ⟨s, l⟩
  · rw [hr] at ck
    clear hd hr hsz
    go_enter Try.func50, Try.ntmps50
    go_upto_region 1 with (fail)
    generalize ((w.alloc (.cells #[.int .u64 (s : Int), .slice a l.length c] 25)).alloc (.cells #[.int .u64 0, .slice none 0 0] 25)) = W at *
    generalize hwb : w.heap.size = wb at *
    have HWB := Lib.hid hwb
    clear hwb
    obtain ⟨n0, n1⟩ := hN.c2
    go_wp2_with (go_at_call 17; (with_reducible refine ck.mono ?_); rintro e w1 ⟨rfl, x1⟩; have hR1 := hR.ext x1 (by simp); obtain ⟨r0, r1⟩ := hR1.c2; have rf := hR1.frozen)
    refine ret_cell_tmp Try.results50 rfl ((hR1.set 0 (.int .u64 0)).set 1 (.slice none 0 0)) Try.underlying25 rfl net_info rfl ⟨fun _ => ⟨rfl, ?_⟩, fun h => by cases h⟩
    exact (hE.trans x1).trans' (((Ext.refl [wb + 1] w1).setCell (p := ⟨wb + 1, 0, none⟩) (.inl (by simp)) (.int .u64 0)).setCell (p := ⟨wb + 1, 1, none⟩) (.inl (by simp)) (.slice none 0 0)) (fun i hi => .inr (by have := HWB.out; simp at hi; omega))
  · rw [hr] at ck
    have hrl := right_len hr
    have hd := hd hr
    have hlb : ∀ p ∈ l, p.bs.length ≤ 100000 := fun p hp => by have := parOK_len (chk_num hrl.2.2 p hp).2.2; omega
    have hll : l.length ≤ 100000 := by have := hrl.2.1; dsimp only at this; omega
    clear hr hrl
    have cp := fun U (x : Ext [] ((w.alloc (.cells #[.int .u64 (s : Int), .slice a l.length c] 25)).alloc (.cells #[.int .u64 0, .slice none 0 0] 25)) U) => copyOf_any U s _ l (hP.ext x) hll hlb
    clear hP
    go_enter Try.func50, Try.ntmps50
    go_upto_region 1 with (fail)
    generalize ((w.alloc (.cells #[.int .u64 (s : Int), .slice a l.length c] 25)).alloc (.cells #[.int .u64 0, .slice none 0 0] 25)) = W at *
    generalize hwb : w.heap.size = wb at *
    have HWB := Lib.hid hwb
    have HSZ := Lib.hid hsz
    clear hwb hsz
    obtain ⟨n0, n1⟩ := hN.c2
    go_upto_region 4 with (go_at_call 17; (with_reducible refine ck.mono ?_); rintro e w1 ⟨rfl, x1⟩; have n0 := cells_ext x1 n0; have n1 := cells_ext x1 n1)
    go_upto_region 5 with (go_at_call 69; (with_reducible refine (cp _ x1).mono ?_); rintro e w2 ⟨⟨v2, rs2, rfl, hO2⟩, x2⟩; obtain ⟨a2, c2, rfl⟩ := hO2.shape; have hN2 := (hN.ext x1 (by simp)).ext x2 (by simp); obtain ⟨m0, m1⟩ := hN2.c2; have mf := hN2.frozen)
    have hN3 := (hN2.set 0 (.int .u64 (s : Int))).set 1 (.slice a2 l.length c2)
    have x3 := ((Ext.refl [wb] w2).setCell (p := ⟨wb, 0, none⟩) (.inl (by simp)) (.int .u64 (s : Int))).setCell (p := ⟨wb, 1, none⟩) (.inl (by simp)) (.slice a2 l.length c2)
    have hO3 := (hO2.other hN2 (by decide) (by decide) x3).mono (show wb + 2 ≤ w1.heap.size by have := HSZ.out; have := x1.size; omega)
    have hX3 := (hE.trans (x1.trans x2)).trans' x3 (fun i hi => .inr (by have := HWB.out; simp at hi; omega))
    have hR3 := ((hR.ext x1 (by simp)).ext x2 (by simp)).ext x3 (by simp)
    generalize (w2.setCell ⟨wb, 0, none⟩ (.int .u64 (s : Int))).setCell ⟨wb, 1, none⟩ (.slice a2 l.length c2) = W3 at *
    have hd3 := hd W3 _ _ hX3 hN3 (by have := hR3.lt; omega) hO3
    clear hd m0 m1 mf n0 n1 ck cp
    by_cases hz : E = 0
    · subst hz
      go_wp2_with (go_at_call 51; (with_reducible refine hd3.mono ?_); rintro e w4 ⟨s4, v4, ⟨a4, n4, c4, rfl⟩, rfl, hN4, hD4, hdid⟩; obtain ⟨k0, k1⟩ := hN4.c2; have hR4 := hdid.blk hR3 (by omega) (by omega) (fun m => by have := hC _ m; omega); obtain ⟨r0, r1⟩ := hR4.c2; have rf := hR4.frozen; have HD4 := Lib.hid hD4; have HDID := Lib.hid hdid; clear hD4 hdid)
      refine ret_cell_tmp Try.results50 rfl ((hR4.set 0 (.int .u64 (s4 : Int))).set 1 (.slice a4 n4 c4)) Try.underlying25 rfl net_info rfl ⟨fun h => (by cases h), fun _ => ⟨w4, s4, .slice a4 n4 c4, ?_, ?_, ⟨_, _, _, rfl⟩, HD4.out, rfl⟩⟩
      · exact (NetX.ofExt (Ext.refl _ _)).cells hR4 (by have := HWB.out; omega) (((Ext.refl [wb + 1] w4).setCell (p := ⟨wb + 1, 0, none⟩) (.inl (by simp)) (.int .u64 (s4 : Int))).setCell (p := ⟨wb + 1, 1, none⟩) (.inl (by simp)) (.slice a4 n4 c4))
      · exact HDID.out.old hX3 (by have := HWB.out; omega) (by have := HWB.out; omega)
    · have hz' : (E == 0) = false := by simpa using hz
      have hz2 : (E != 0) = true := by simpa using hz
      have HZ := Lib.hid hz
      clear hz
      go_wp2_with (go_at_call 51; (with_reducible refine hd3.mono ?_); rintro e w4 ⟨s4, v4, ⟨a4, n4, c4, rfl⟩, rfl, hN4, hD4, hdid⟩; obtain ⟨k0, k1⟩ := hN4.c2; have hR4 := hdid.blk hR3 (by omega) (by omega) (fun m => by have := hC _ m; omega); obtain ⟨r0, r1⟩ := hR4.c2; have rf := hR4.frozen; have HD4 := Lib.hid hD4; have HDID := Lib.hid hdid; clear hD4 hdid)
      refine ret_cell_tmp Try.results50 rfl ((hR4.set 0 (.int .u64 0)).set 1 (.slice none 0 0)) Try.underlying25 rfl net_info rfl ⟨fun h => (by cases h), fun _ => ⟨w4, s4, .slice a4 n4 c4, ?_, ?_, ⟨_, _, _, rfl⟩, HD4.out, ?_⟩⟩
      · exact (NetX.ofExt (Ext.refl _ _)).cells hR4 (by have := HWB.out; omega) (((Ext.refl [wb + 1] w4).setCell (p := ⟨wb + 1, 0, none⟩) (.inl (by simp)) (.int .u64 0)).setCell (p := ⟨wb + 1, 1, none⟩) (.inl (by simp)) (.slice none 0 0))
      · exact HDID.out.old hX3 (by have := HWB.out; omega) (by have := HWB.out; omega)
      · rw [if_neg HZ.out]; rfl
set_option maxRecDepth 100000 in
set_option maxHeartbeats 4000000 in
theorem changed_Drop (w : World) (s : Nat) (v : Value) (l : List Par) (hP : Ps w v l) (caps : Array Value) (E : Int) (C : List Nat) (hC : ∀ k ∈ C, k < w.heap.size) (D : Nat → Value → World → Prop)
    (hd : right ⟨s, l⟩ = true → ∀ W vv rs, Ext [] w W → Blk W w.heap.size 25 [.int .u64 (s : Int), vv] → w.heap.size + 2 ≤ W.heap.size → OPs (w.heap.size + 2) W vv l rs →
      Calls Try.prog 66 (#[pt w.heap.size] ++ caps) W fun e w' => ∃ (s' : Nat) (v' : Value), (∃ a' n' c', v' = .slice a' n' c') ∧ e = .returned (.int .i64 E) ∧ Blk w' w.heap.size 25 [.int .u64 (s' : Int), v'] ∧ D s' v' w' ∧ Did (w.heap.size + 2) w.heap.size C W w') :
    Calls Try.prog 50 #[NV s v, .func (.func 66) #[] caps] w (Changed w (right ⟨s, l⟩) E C D) := by
  obtain ⟨a, c, rfl⟩ := hP.shape
  have hE1 := (Ext.refl [] w).alloc (.cells #[.int .u64 (s : Int), .slice a l.length c] 25)
  have hE2 := (Ext.refl [] (w.alloc (.cells #[.int .u64 (s : Int), .slice a l.length c] 25))).alloc (.cells #[.int .u64 0, .slice none 0 0] 25)
  have hE := hE1.trans hE2
  have hN := (Blk.new w [.int .u64 (s : Int), .slice a l.length c] 25).ext hE2 (by simp)
  have hR := Blk.new (w.alloc (.cells #[.int .u64 (s : Int), .slice a l.length c] 25)) [.int .u64 0, .slice none 0 0] 25
  simp only [World.size_alloc] at hR
  have hP := hP.ext hE
  have hsz : ((w.alloc (.cells #[.int .u64 (s : Int), .slice a l.length c] 25)).alloc (.cells #[.int .u64 0, .slice none 0 0] 25)).heap.size = w.heap.size + 2 := by simp
  clear hE1 hE2
  have ck := Check_any ((w.alloc (.cells #[.int .u64 (s : Int), .slice a l.length c] 25)).alloc (.cells #[.int .u64 0, .slice none 0 0] 25)) s _ l hP
  cases hr : right ⟨s, l⟩
  · rw [hr] at ck
    clear hd hr hsz
    go_enter Try.func50, Try.ntmps50
    go_upto_region 1 with (fail)
    generalize ((w.alloc (.cells #[.int .u64 (s : Int), .slice a l.length c] 25)).alloc (.cells #[.int .u64 0, .slice none 0 0] 25)) = W at *
    generalize hwb : w.heap.size = wb at *
    have HWB := Lib.hid hwb
    clear hwb
    obtain ⟨n0, n1⟩ := hN.c2
    go_wp2_with (go_at_call 17; (with_reducible refine ck.mono ?_); rintro e w1 ⟨rfl, x1⟩; have hR1 := hR.ext x1 (by simp); obtain ⟨r0, r1⟩ := hR1.c2; have rf := hR1.frozen)
    refine ret_cell_tmp Try.results50 rfl ((hR1.set 0 (.int .u64 0)).set 1 (.slice none 0 0)) Try.underlying25 rfl net_info rfl ⟨fun _ => ⟨rfl, ?_⟩, fun h => by cases h⟩
    exact (hE.trans x1).trans' (((Ext.refl [wb + 1] w1).setCell (p := ⟨wb + 1, 0, none⟩) (.inl (by simp)) (.int .u64 0)).setCell (p := ⟨wb + 1, 1, none⟩) (.inl (by simp)) (.slice none 0 0)) (fun i hi => .inr (by have := HWB.out; simp at hi; omega))
  · rw [hr] at ck
    have hrl := right_len hr
    have hd := hd hr
    have hlb : ∀ p ∈ l, p.bs.length ≤ 100000 := fun p hp => by have := parOK_len (chk_num hrl.2.2 p hp).2.2; omega
    have hll : l.length ≤ 100000 := by have := hrl.2.1; dsimp only at this; omega
    clear hr hrl
    have cp := fun U (x : Ext [] ((w.alloc (.cells #[.int .u64 (s : Int), .slice a l.length c] 25)).alloc (.cells #[.int .u64 0, .slice none 0 0] 25)) U) => copyOf_any U s _ l (hP.ext x) hll hlb
    clear hP
    go_enter Try.func50, Try.ntmps50
    go_upto_region 1 with (fail)
    generalize ((w.alloc (.cells #[.int .u64 (s : Int), .slice a l.length c] 25)).alloc (.cells #[.int .u64 0, .slice none 0 0] 25)) = W at *
    generalize hwb : w.heap.size = wb at *
    have HWB := Lib.hid hwb
    have HSZ := Lib.hid hsz
    clear hwb hsz
    obtain ⟨n0, n1⟩ := hN.c2
    go_upto_region 4 with (go_at_call 17; (with_reducible refine ck.mono ?_); rintro e w1 ⟨rfl, x1⟩; have n0 := cells_ext x1 n0; have n1 := cells_ext x1 n1)
    go_upto_region 5 with (go_at_call 69; (with_reducible refine (cp _ x1).mono ?_); rintro e w2 ⟨⟨v2, rs2, rfl, hO2⟩, x2⟩; obtain ⟨a2, c2, rfl⟩ := hO2.shape; have hN2 := (hN.ext x1 (by simp)).ext x2 (by simp); obtain ⟨m0, m1⟩ := hN2.c2; have mf := hN2.frozen)
    have hN3 := (hN2.set 0 (.int .u64 (s : Int))).set 1 (.slice a2 l.length c2)
    have x3 := ((Ext.refl [wb] w2).setCell (p := ⟨wb, 0, none⟩) (.inl (by simp)) (.int .u64 (s : Int))).setCell (p := ⟨wb, 1, none⟩) (.inl (by simp)) (.slice a2 l.length c2)
    have hO3 := (hO2.other hN2 (by decide) (by decide) x3).mono (show wb + 2 ≤ w1.heap.size by have := HSZ.out; have := x1.size; omega)
    have hX3 := (hE.trans (x1.trans x2)).trans' x3 (fun i hi => .inr (by have := HWB.out; simp at hi; omega))
    have hR3 := ((hR.ext x1 (by simp)).ext x2 (by simp)).ext x3 (by simp)
    generalize (w2.setCell ⟨wb, 0, none⟩ (.int .u64 (s : Int))).setCell ⟨wb, 1, none⟩ (.slice a2 l.length c2) = W3 at *
    have hd3 := hd W3 _ _ hX3 hN3 (by have := hR3.lt; omega) hO3
    clear hd m0 m1 mf n0 n1 ck cp
    by_cases hz : E = 0
    · subst hz
      go_wp2_with (go_at_call 66; (with_reducible refine hd3.mono ?_); rintro e w4 ⟨s4, v4, ⟨a4, n4, c4, rfl⟩, rfl, hN4, hD4, hdid⟩; obtain ⟨k0, k1⟩ := hN4.c2; have hR4 := hdid.blk hR3 (by omega) (by omega) (fun m => by have := hC _ m; omega); obtain ⟨r0, r1⟩ := hR4.c2; have rf := hR4.frozen; have HD4 := Lib.hid hD4; have HDID := Lib.hid hdid; clear hD4 hdid)
      refine ret_cell_tmp Try.results50 rfl ((hR4.set 0 (.int .u64 (s4 : Int))).set 1 (.slice a4 n4 c4)) Try.underlying25 rfl net_info rfl ⟨fun h => (by cases h), fun _ => ⟨w4, s4, .slice a4 n4 c4, ?_, ?_, ⟨_, _, _, rfl⟩, HD4.out, rfl⟩⟩
      · exact (NetX.ofExt (Ext.refl _ _)).cells hR4 (by have := HWB.out; omega) (((Ext.refl [wb + 1] w4).setCell (p := ⟨wb + 1, 0, none⟩) (.inl (by simp)) (.int .u64 (s4 : Int))).setCell (p := ⟨wb + 1, 1, none⟩) (.inl (by simp)) (.slice a4 n4 c4))
      · exact HDID.out.old hX3 (by have := HWB.out; omega) (by have := HWB.out; omega)
    · have hz' : (E == 0) = false := by simpa using hz
      have hz2 : (E != 0) = true := by simpa using hz
      have HZ := Lib.hid hz
      clear hz
      go_wp2_with (go_at_call 66; (with_reducible refine hd3.mono ?_); rintro e w4 ⟨s4, v4, ⟨a4, n4, c4, rfl⟩, rfl, hN4, hD4, hdid⟩; obtain ⟨k0, k1⟩ := hN4.c2; have hR4 := hdid.blk hR3 (by omega) (by omega) (fun m => by have := hC _ m; omega); obtain ⟨r0, r1⟩ := hR4.c2; have rf := hR4.frozen; have HD4 := Lib.hid hD4; have HDID := Lib.hid hdid; clear hD4 hdid)
      refine ret_cell_tmp Try.results50 rfl ((hR4.set 0 (.int .u64 0)).set 1 (.slice none 0 0)) Try.underlying25 rfl net_info rfl ⟨fun h => (by cases h), fun _ => ⟨w4, s4, .slice a4 n4 c4, ?_, ?_, ⟨_, _, _, rfl⟩, HD4.out, ?_⟩⟩
      · exact (NetX.ofExt (Ext.refl _ _)).cells hR4 (by have := HWB.out; omega) (((Ext.refl [wb + 1] w4).setCell (p := ⟨wb + 1, 0, none⟩) (.inl (by simp)) (.int .u64 0)).setCell (p := ⟨wb + 1, 1, none⟩) (.inl (by simp)) (.slice none 0 0))
      · exact HDID.out.old hX3 (by have := HWB.out; omega) (by have := HWB.out; omega)
      · rw [if_neg HZ.out]; rfl
set_option maxRecDepth 100000 in
set_option maxHeartbeats 4000000 in
theorem changed_At (w : World) (s : Nat) (v : Value) (l : List Par) (hP : Ps w v l) (caps : Array Value) (E : Int) (C : List Nat) (hC : ∀ k ∈ C, k < w.heap.size) (D : Nat → Value → World → Prop)
    (hd : right ⟨s, l⟩ = true → ∀ W vv rs, Ext [] w W → Blk W w.heap.size 25 [.int .u64 (s : Int), vv] → w.heap.size + 2 ≤ W.heap.size → OPs (w.heap.size + 2) W vv l rs →
      Calls Try.prog 71 (#[pt w.heap.size] ++ caps) W fun e w' => ∃ (s' : Nat) (v' : Value), (∃ a' n' c', v' = .slice a' n' c') ∧ e = .returned (.int .i64 E) ∧ Blk w' w.heap.size 25 [.int .u64 (s' : Int), v'] ∧ D s' v' w' ∧ Did (w.heap.size + 2) w.heap.size C W w') :
    Calls Try.prog 50 #[NV s v, .func (.func 71) #[] caps] w (Changed w (right ⟨s, l⟩) E C D) := by
  obtain ⟨a, c, rfl⟩ := hP.shape
  have hE1 := (Ext.refl [] w).alloc (.cells #[.int .u64 (s : Int), .slice a l.length c] 25)
  have hE2 := (Ext.refl [] (w.alloc (.cells #[.int .u64 (s : Int), .slice a l.length c] 25))).alloc (.cells #[.int .u64 0, .slice none 0 0] 25)
  have hE := hE1.trans hE2
  have hN := (Blk.new w [.int .u64 (s : Int), .slice a l.length c] 25).ext hE2 (by simp)
  have hR := Blk.new (w.alloc (.cells #[.int .u64 (s : Int), .slice a l.length c] 25)) [.int .u64 0, .slice none 0 0] 25
  simp only [World.size_alloc] at hR
  have hP := hP.ext hE
  have hsz : ((w.alloc (.cells #[.int .u64 (s : Int), .slice a l.length c] 25)).alloc (.cells #[.int .u64 0, .slice none 0 0] 25)).heap.size = w.heap.size + 2 := by simp
  clear hE1 hE2
  have ck := Check_any ((w.alloc (.cells #[.int .u64 (s : Int), .slice a l.length c] 25)).alloc (.cells #[.int .u64 0, .slice none 0 0] 25)) s _ l hP
  cases hr : right ⟨s, l⟩
  · rw [hr] at ck
    clear hd hr hsz
    go_enter Try.func50, Try.ntmps50
    go_upto_region 1 with (fail)
    generalize ((w.alloc (.cells #[.int .u64 (s : Int), .slice a l.length c] 25)).alloc (.cells #[.int .u64 0, .slice none 0 0] 25)) = W at *
    generalize hwb : w.heap.size = wb at *
    have HWB := Lib.hid hwb
    clear hwb
    obtain ⟨n0, n1⟩ := hN.c2
    go_wp2_with (go_at_call 17; (with_reducible refine ck.mono ?_); rintro e w1 ⟨rfl, x1⟩; have hR1 := hR.ext x1 (by simp); obtain ⟨r0, r1⟩ := hR1.c2; have rf := hR1.frozen)
    refine ret_cell_tmp Try.results50 rfl ((hR1.set 0 (.int .u64 0)).set 1 (.slice none 0 0)) Try.underlying25 rfl net_info rfl ⟨fun _ => ⟨rfl, ?_⟩, fun h => by cases h⟩
    exact (hE.trans x1).trans' (((Ext.refl [wb + 1] w1).setCell (p := ⟨wb + 1, 0, none⟩) (.inl (by simp)) (.int .u64 0)).setCell (p := ⟨wb + 1, 1, none⟩) (.inl (by simp)) (.slice none 0 0)) (fun i hi => .inr (by have := HWB.out; simp at hi; omega))
  · rw [hr] at ck
    have hrl := right_len hr
    have hd := hd hr
    have hlb : ∀ p ∈ l, p.bs.length ≤ 100000 := fun p hp => by have := parOK_len (chk_num hrl.2.2 p hp).2.2; omega
    have hll : l.length ≤ 100000 := by have := hrl.2.1; dsimp only at this; omega
    clear hr hrl
    have cp := fun U (x : Ext [] ((w.alloc (.cells #[.int .u64 (s : Int), .slice a l.length c] 25)).alloc (.cells #[.int .u64 0, .slice none 0 0] 25)) U) => copyOf_any U s _ l (hP.ext x) hll hlb
    clear hP
    go_enter Try.func50, Try.ntmps50
    go_upto_region 1 with (fail)
    generalize ((w.alloc (.cells #[.int .u64 (s : Int), .slice a l.length c] 25)).alloc (.cells #[.int .u64 0, .slice none 0 0] 25)) = W at *
    generalize hwb : w.heap.size = wb at *
    have HWB := Lib.hid hwb
    have HSZ := Lib.hid hsz
    clear hwb hsz
    obtain ⟨n0, n1⟩ := hN.c2
    go_upto_region 4 with (go_at_call 17; (with_reducible refine ck.mono ?_); rintro e w1 ⟨rfl, x1⟩; have n0 := cells_ext x1 n0; have n1 := cells_ext x1 n1)
    go_upto_region 5 with (go_at_call 69; (with_reducible refine (cp _ x1).mono ?_); rintro e w2 ⟨⟨v2, rs2, rfl, hO2⟩, x2⟩; obtain ⟨a2, c2, rfl⟩ := hO2.shape; have hN2 := (hN.ext x1 (by simp)).ext x2 (by simp); obtain ⟨m0, m1⟩ := hN2.c2; have mf := hN2.frozen)
    have hN3 := (hN2.set 0 (.int .u64 (s : Int))).set 1 (.slice a2 l.length c2)
    have x3 := ((Ext.refl [wb] w2).setCell (p := ⟨wb, 0, none⟩) (.inl (by simp)) (.int .u64 (s : Int))).setCell (p := ⟨wb, 1, none⟩) (.inl (by simp)) (.slice a2 l.length c2)
    have hO3 := (hO2.other hN2 (by decide) (by decide) x3).mono (show wb + 2 ≤ w1.heap.size by have := HSZ.out; have := x1.size; omega)
    have hX3 := (hE.trans (x1.trans x2)).trans' x3 (fun i hi => .inr (by have := HWB.out; simp at hi; omega))
    have hR3 := ((hR.ext x1 (by simp)).ext x2 (by simp)).ext x3 (by simp)
    generalize (w2.setCell ⟨wb, 0, none⟩ (.int .u64 (s : Int))).setCell ⟨wb, 1, none⟩ (.slice a2 l.length c2) = W3 at *
    have hd3 := hd W3 _ _ hX3 hN3 (by have := hR3.lt; omega) hO3
    clear hd m0 m1 mf n0 n1 ck cp
    by_cases hz : E = 0
    · subst hz
      go_wp2_with (go_at_call 71; (with_reducible refine hd3.mono ?_); rintro e w4 ⟨s4, v4, ⟨a4, n4, c4, rfl⟩, rfl, hN4, hD4, hdid⟩; obtain ⟨k0, k1⟩ := hN4.c2; have hR4 := hdid.blk hR3 (by omega) (by omega) (fun m => by have := hC _ m; omega); obtain ⟨r0, r1⟩ := hR4.c2; have rf := hR4.frozen; have HD4 := Lib.hid hD4; have HDID := Lib.hid hdid; clear hD4 hdid)
      refine ret_cell_tmp Try.results50 rfl ((hR4.set 0 (.int .u64 (s4 : Int))).set 1 (.slice a4 n4 c4)) Try.underlying25 rfl net_info rfl ⟨fun h => (by cases h), fun _ => ⟨w4, s4, .slice a4 n4 c4, ?_, ?_, ⟨_, _, _, rfl⟩, HD4.out, rfl⟩⟩
      · exact (NetX.ofExt (Ext.refl _ _)).cells hR4 (by have := HWB.out; omega) (((Ext.refl [wb + 1] w4).setCell (p := ⟨wb + 1, 0, none⟩) (.inl (by simp)) (.int .u64 (s4 : Int))).setCell (p := ⟨wb + 1, 1, none⟩) (.inl (by simp)) (.slice a4 n4 c4))
      · exact HDID.out.old hX3 (by have := HWB.out; omega) (by have := HWB.out; omega)
    · have hz' : (E == 0) = false := by simpa using hz
      have hz2 : (E != 0) = true := by simpa using hz
      have HZ := Lib.hid hz
      clear hz
      go_wp2_with (go_at_call 71; (with_reducible refine hd3.mono ?_); rintro e w4 ⟨s4, v4, ⟨a4, n4, c4, rfl⟩, rfl, hN4, hD4, hdid⟩; obtain ⟨k0, k1⟩ := hN4.c2; have hR4 := hdid.blk hR3 (by omega) (by omega) (fun m => by have := hC _ m; omega); obtain ⟨r0, r1⟩ := hR4.c2; have rf := hR4.frozen; have HD4 := Lib.hid hD4; have HDID := Lib.hid hdid; clear hD4 hdid)
      refine ret_cell_tmp Try.results50 rfl ((hR4.set 0 (.int .u64 0)).set 1 (.slice none 0 0)) Try.underlying25 rfl net_info rfl ⟨fun h => (by cases h), fun _ => ⟨w4, s4, .slice a4 n4 c4, ?_, ?_, ⟨_, _, _, rfl⟩, HD4.out, ?_⟩⟩
      · exact (NetX.ofExt (Ext.refl _ _)).cells hR4 (by have := HWB.out; omega) (((Ext.refl [wb + 1] w4).setCell (p := ⟨wb + 1, 0, none⟩) (.inl (by simp)) (.int .u64 0)).setCell (p := ⟨wb + 1, 1, none⟩) (.inl (by simp)) (.slice none 0 0))
      · exact HDID.out.old hX3 (by have := HWB.out; omega) (by have := HWB.out; omega)
      · rw [if_neg HZ.out]; rfl
end Go.Proofs.Ytpdfmeaemlgniaa
