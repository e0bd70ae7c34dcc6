/-
  changedAt, whatever is done.
-/
import Derived.Test.YtpdfmeaemlgniaaNetG
namespace Go.Proofs.Ytpdfmeaemlgniaa
open Go.RowKit
set_option linter.unusedVariables false
/-- what 'changedAt' answers -/
def ChangedAt (w : World) (R : Bool) (E : Int) (C : List Nat) (D : Nat → Value → World → Prop) : Ending → World → Prop := fun e w' =>
  (R = false → e = .returned (.tuple #[zNV, .int .i64 340]) ∧ Ext [] w w') ∧
  (R = true → ∃ w1 s' v', NetX w w1 w' ∧ Ext C w w1 ∧ (∃ a' n' c', v' = .slice a' n' c') ∧ D s' v' w1 ∧ e = .returned (.tuple #[if E = 0 then NV s' v' else zNV, .int .i64 E]))
set_option maxRecDepth 100000 in
set_option maxHeartbeats 4000000 in
theorem changedAt_Come (w : World) (s k : Nat) (v : Value) (l : List Par) (hP : Ps w v l) (caps : Array Value) (E : Int) (C : List Nat) (hC : ∀ k ∈ C, k < w.heap.size) (D : Nat → Value → World → Prop)
    (h4 : fnd l k = l.length → E = 4 ∧ ∀ s v w', Ext [] w w' → D s v w')
    (hd : right ⟨s, l⟩ = true → ∀ b S W vv rs, Ext [] w W → w.heap.size ≤ b → b < S → S ≤ W.heap.size → Blk W b 25 [.int .u64 (s : Int), vv] → OPs S W vv l rs → ∀ W' i p, Ext [] W W' → l[i]? = some p → p.num = k → fnd l k = i →
      Calls Try.prog 61 (#[pt b, .int .i64 (i : Int)] ++ caps) W' fun e w' => ∃ (s' : Nat) (v' : Value), (∃ a' n' c', v' = .slice a' n' c') ∧ e = .returned (.int .i64 E) ∧ Blk w' b 25 [.int .u64 (s' : Int), v'] ∧ D s' v' w' ∧ Did S b C W' w') :
    Calls Try.prog 55 #[NV s v, .int .u64 (k : Int), .func (.func 61) #[] caps] w (ChangedAt w (right ⟨s, l⟩) E C D) := by
  obtain ⟨a, c, rfl⟩ := hP.shape
  have e1 := (Ext.refl [] w).alloc (.cells #[.int .u64 (s : Int), .slice a l.length c] 25)
  have e2 := (Ext.refl [] (w.alloc (.cells #[.int .u64 (s : Int), .slice a l.length c] 25))).alloc (.cells #[.int .u64 (k : Int)] 22)
  have e3 := (Ext.refl [] ((w.alloc (.cells #[.int .u64 (s : Int), .slice a l.length c] 25)).alloc (.cells #[.int .u64 (k : Int)] 22))).alloc (.cells #[.func (.func 61) #[] caps] 88)
  have e4 := (Ext.refl [] (((w.alloc (.cells #[.int .u64 (s : Int), .slice a l.length c] 25)).alloc (.cells #[.int .u64 (k : Int)] 22)).alloc (.cells #[.func (.func 61) #[] caps] 88))).alloc (.cells #[.int .u64 0, .slice none 0 0] 25)
  have b1 := (Blk.new w [.int .u64 (s : Int), .slice a l.length c] 25).ext ((e2.trans e3).trans e4) (by simp)
  have b2 := (Blk.new (w.alloc (.cells #[.int .u64 (s : Int), .slice a l.length c] 25)) [.int .u64 (k : Int)] 22).ext (e3.trans e4) (by simp)
  have b3 := (Blk.new ((w.alloc (.cells #[.int .u64 (s : Int), .slice a l.length c] 25)).alloc (.cells #[.int .u64 (k : Int)] 22)) [.func (.func 61) #[] caps] 88).ext e4 (by simp)
  have b4 := Blk.new (((w.alloc (.cells #[.int .u64 (s : Int), .slice a l.length c] 25)).alloc (.cells #[.int .u64 (k : Int)] 22)).alloc (.cells #[.func (.func 61) #[] caps] 88)) [.int .u64 0, .slice none 0 0] 25
  have hE := ((e1.trans e2).trans e3).trans e4
  simp only [World.size_alloc] at b2 b3 b4
  have hP := hP.ext hE
  have hsz : ((((w.alloc (.cells #[.int .u64 (s : Int), .slice a l.length c] 25)).alloc (.cells #[.int .u64 (k : Int)] 22)).alloc (.cells #[.func (.func 61) #[] caps] 88)).alloc (.cells #[.int .u64 0, .slice none 0 0] 25)).heap.size = w.heap.size + 4 := by simp
  clear e1 e2 e3 e4
  have ch := changed_At ((((w.alloc (.cells #[.int .u64 (s : Int), .slice a l.length c] 25)).alloc (.cells #[.int .u64 (k : Int)] 22)).alloc (.cells #[.func (.func 61) #[] caps] 88)).alloc (.cells #[.int .u64 0, .slice none 0 0] 25)) s _ l hP #[pt (w.heap.size + 1), pt (w.heap.size + 1 + 1)] E C (fun k hk => by have := hC k hk; have := hsz; omega) D (fun hr W' vv rs x hb hs hO => by
    have hrl := right_len hr
    have k2 := (b2.ext x (by simp)).cell 0
    have k3 := (b3.ext x (by simp)).cell 0
    exact at1_Come W' ((((w.alloc (.cells #[.int .u64 (s : Int), .slice a l.length c] 25)).alloc (.cells #[.int .u64 (k : Int)] 22)).alloc (.cells #[.func (.func 61) #[] caps] 88)).alloc (.cells #[.int .u64 0, .slice none 0 0] 25)).heap.size (w.heap.size + 1) (w.heap.size + 1 + 1) (((((w.alloc (.cells #[.int .u64 (s : Int), .slice a l.length c] 25)).alloc (.cells #[.int .u64 (k : Int)] 22)).alloc (.cells #[.func (.func 61) #[] caps] 88)).alloc (.cells #[.int .u64 0, .slice none 0 0] 25)).heap.size + 2) s k vv l rs caps E C D hb hO k2 k3 (chk_sorted hrl.2.2) (by have := hrl.2.1; dsimp only at this; omega) (fun hn => ⟨(h4 hn).1, fun s v u xu => (h4 hn).2 s v u (hE.trans (x.trans xu))⟩)
      (fun W'' i p x2 hp hn hf => hd hr ((((w.alloc (.cells #[.int .u64 (s : Int), .slice a l.length c] 25)).alloc (.cells #[.int .u64 (k : Int)] 22)).alloc (.cells #[.func (.func 61) #[] caps] 88)).alloc (.cells #[.int .u64 0, .slice none 0 0] 25)).heap.size (((((w.alloc (.cells #[.int .u64 (s : Int), .slice a l.length c] 25)).alloc (.cells #[.int .u64 (k : Int)] 22)).alloc (.cells #[.func (.func 61) #[] caps] 88)).alloc (.cells #[.int .u64 0, .slice none 0 0] 25)).heap.size + 2) W' vv rs (hE.trans x) (by have := hsz; omega) (by omega) hs hb hO W'' i p x2 hp hn hf))
  clear hd h4
  cases hr : right ⟨s, l⟩
  · rw [hr] at ch
    clear hr
    go_enter Try.func55, Try.ntmps55
    go_upto_region 1 with (fail)
    generalize (((w.alloc (.cells #[.int .u64 (s : Int), .slice a l.length c] 25)).alloc (.cells #[.int .u64 (k : Int)] 22)).alloc (.cells #[.func (.func 61) #[] caps] 88)).alloc (.cells #[.int .u64 0, .slice none 0 0] 25) = W at *
    generalize hwb : w.heap.size = wb at *
    have HWB := Lib.hid hwb
    have HSZ := Lib.hid hsz
    clear hwb hsz
    obtain ⟨n0, n1⟩ := b1.c2
    go_wp2_with (go_at_call 50; (with_reducible refine ch.mono ?_); rintro e w1 ⟨h1, _⟩; obtain ⟨rfl, x1⟩ := h1 rfl; clear h1; have b4 := b4.ext x1 (by simp); obtain ⟨r0, r1⟩ := b4.c2; have rf := b4.frozen)
    refine ret_cell_tmp Try.results55 rfl ((b4.set 0 (.int .u64 0)).set 1 (.slice none 0 0)) Try.underlying25 rfl net_info rfl ⟨fun _ => ⟨rfl, ?_⟩, fun h => by cases h⟩
    exact (hE.trans x1).trans' (((Ext.refl [wb + 1 + 1 + 1] w1).setCell (p := ⟨wb + 1 + 1 + 1, 0, none⟩) (.inl (by simp)) (.int .u64 0)).setCell (p := ⟨wb + 1 + 1 + 1, 1, none⟩) (.inl (by simp)) (.slice none 0 0)) (fun i hi => .inr (by have := HWB.out; simp at hi; omega))
  · rw [hr] at ch
    clear hr
    go_enter Try.func55, Try.ntmps55
    go_upto_region 1 with (fail)
    generalize (((w.alloc (.cells #[.int .u64 (s : Int), .slice a l.length c] 25)).alloc (.cells #[.int .u64 (k : Int)] 22)).alloc (.cells #[.func (.func 61) #[] caps] 88)).alloc (.cells #[.int .u64 0, .slice none 0 0] 25) = W at *
    generalize hwb : w.heap.size = wb at *
    have HWB := Lib.hid hwb
    have HSZ := Lib.hid hsz
    clear hwb hsz
    obtain ⟨n0, n1⟩ := b1.c2
    have b4X : ∀ w1 w2, Ext C W w1 → NetX W w1 w2 → Blk w2 (wb + 1 + 1 + 1) 25 [.int .u64 0, .slice none 0 0] := by
      intro w1 w2 x y
      have hx := y.old x
      exact b4.ext hx (fun m => by have := hC _ m; omega)
    by_cases hz : E = 0
    · subst hz
      go_wp2_with (go_at_call 50; (with_reducible refine ch.mono ?_); rintro e w2 ⟨_, h1⟩; obtain ⟨w1, s1, v1, y1, x1, ⟨a1, n1, c1, rfl⟩, hD1, rfl⟩ := h1 rfl; clear h1; have b4 := b4X w1 w2 x1 y1; obtain ⟨r0, r1⟩ := b4.c2; have rf := b4.frozen; have HD := Lib.hid (And.intro y1 (And.intro x1 hD1)); clear y1 x1 hD1)
      refine ret_cell_tmp Try.results55 rfl ((b4.set 0 (.int .u64 (s1 : Int))).set 1 (.slice a1 n1 c1)) Try.underlying25 rfl net_info rfl ⟨fun h => (by cases h), fun _ => ⟨w1, s1, .slice a1 n1 c1, ?_, ?_, ⟨_, _, _, rfl⟩, HD.out.2.2, rfl⟩⟩
      · exact (HD.out.1.wide (by have := HSZ.out; have := HWB.out; omega)).cells b4 (by have := HWB.out; omega) (((Ext.refl [wb + 1 + 1 + 1] w2).setCell (p := ⟨wb + 1 + 1 + 1, 0, none⟩) (.inl (by simp)) (.int .u64 (s1 : Int))).setCell (p := ⟨wb + 1 + 1 + 1, 1, none⟩) (.inl (by simp)) (.slice a1 n1 c1))
      · exact (hE.mono (by simp)).trans HD.out.2.1
    · have HZ := Lib.hid hz
      clear hz
      go_wp2_with (go_at_call 50; (with_reducible refine ch.mono ?_); rintro e w2 ⟨_, h1⟩; obtain ⟨w1, s1, v1, y1, x1, ⟨a1, n1, c1, rfl⟩, hD1, rfl⟩ := h1 rfl; clear h1; rw [if_neg HZ.out]; have b4 := b4X w1 w2 x1 y1; obtain ⟨r0, r1⟩ := b4.c2; have rf := b4.frozen; have HD := Lib.hid (And.intro y1 (And.intro x1 hD1)); clear y1 x1 hD1)
      refine ret_cell_tmp Try.results55 rfl ((b4.set 0 (.int .u64 0)).set 1 (.slice none 0 0)) Try.underlying25 rfl net_info rfl ⟨fun h => (by cases h), fun _ => ⟨w1, s1, .slice a1 n1 c1, ?_, ?_, ⟨_, _, _, rfl⟩, HD.out.2.2, by rw [if_neg HZ.out]; rfl⟩⟩
      · exact (HD.out.1.wide (by have := HSZ.out; have := HWB.out; omega)).cells b4 (by have := HWB.out; omega) (((Ext.refl [wb + 1 + 1 + 1] w2).setCell (p := ⟨wb + 1 + 1 + 1, 0, none⟩) (.inl (by simp)) (.int .u64 0)).setCell (p := ⟨wb + 1 + 1 + 1, 1, none⟩) (.inl (by simp)) (.slice none 0 0))
      · exact (hE.mono (by simp)).trans HD.out.2.1
set_option maxRecDepth 100000 in
set_option maxHeartbeats 4000000 in
theorem changedAt_Twin (w : World) (s k : Nat) (v : Value) (l : List Par) (hP : Ps w v l) (caps : Array Value) (E : Int) (C : List Nat) (hC : ∀ k ∈ C, k < w.heap.size) (D : Nat → Value → World → Prop)
    (h4 : fnd l k = l.length → E = 4 ∧ ∀ s v w', Ext [] w w' → D s v w')
    (hd : right ⟨s, l⟩ = true → ∀ b S W vv rs, Ext [] w W → w.heap.size ≤ b → b < S → S ≤ W.heap.size → Blk W b 25 [.int .u64 (s : Int), vv] → OPs S W vv l rs → ∀ W' i p, Ext [] W W' → l[i]? = some p → p.num = k → fnd l k = i →
      Calls Try.prog 56 (#[pt b, .int .i64 (i : Int)] ++ caps) W' fun e w' => ∃ (s' : Nat) (v' : Value), (∃ a' n' c', v' = .slice a' n' c') ∧ e = .returned (.int .i64 E) ∧ Blk w' b 25 [.int .u64 (s' : Int), v'] ∧ D s' v' w' ∧ Did S b C W' w') :
    Calls Try.prog 55 #[NV s v, .int .u64 (k : Int), .func (.func 56) #[] caps] w (ChangedAt w (right ⟨s, l⟩) E C D) := by
  obtain ⟨a, c, rfl⟩ := hP.shape
  have e1 := (Ext.refl [] w).alloc (.cells #[.int .u64 (s : Int), .slice a l.length c] 25)
  have e2 := (Ext.refl [] (w.alloc (.cells #[.int .u64 (s : Int), .slice a l.length c] 25))).alloc (.cells #[.int .u64 (k : Int)] 22)
  have e3 := (Ext.refl [] ((w.alloc (.cells #[.int .u64 (s : Int), .slice a l.length c] 25)).alloc (.cells #[.int .u64 (k : Int)] 22))).alloc (.cells #[.func (.func 56) #[] caps] 88)
  have e4 := (Ext.refl [] (((w.alloc (.cells #[.int .u64 (s : Int), .slice a l.length c] 25)).alloc (.cells #[.int .u64 (k : Int)] 22)).alloc (.cells #[.func (.func 56) #[] caps] 88))).alloc (.cells #[.int .u64 0, .slice none 0 0] 25)
  have b1 := (Blk.new w [.int .u64 (s : Int), .slice a l.length c] 25).ext ((e2.trans e3).trans e4) (by simp)
  have b2 := (Blk.new (w.alloc (.cells #[.int .u64 (s : Int), .slice a l.length c] 25)) [.int .u64 (k : Int)] 22).ext (e3.trans e4) (by simp)
  have b3 := (Blk.new ((w.alloc (.cells #[.int .u64 (s : Int), .slice a l.length c] 25)).alloc (.cells #[.int .u64 (k : Int)] 22)) [.func (.func 56) #[] caps] 88).ext e4 (by simp)
  have b4 := Blk.new (((w.alloc (.cells #[.int .u64 (s : Int), .slice a l.length c] 25)).alloc (.cells #[.int .u64 (k : Int)] 22)).alloc (.cells #[.func (.func 56) #[] caps] 88)) [.int .u64 0, .slice none 0 0] 25
  have hE := ((e1.trans e2).trans e3).trans e4
  simp only [World.size_alloc] at b2 b3 b4
  have hP := hP.ext hE
  have hsz : ((((w.alloc (.cells #[.int .u64 (s : Int), .slice a l.length c] 25)).alloc (.cells #[.int .u64 (k : Int)] 22)).alloc (.cells #[.func (.func 56) #[] caps] 88)).alloc (.cells #[.int .u64 0, .slice none 0 0] 25)).heap.size = w.heap.size + 4 := by simp
  clear e1 e2 e3 e4
  have ch := changed_At ((((w.alloc (.cells #[.int .u64 (s : Int), .slice a l.length c] 25)).alloc (.cells #[.int .u64 (k : Int)] 22)).alloc (.cells #[.func (.func 56) #[] caps] 88)).alloc (.cells #[.int .u64 0, .slice none 0 0] 25)) s _ l hP #[pt (w.heap.size + 1), pt (w.heap.size + 1 + 1)] E C (fun k hk => by have := hC k hk; have := hsz; omega) D (fun hr W' vv rs x hb hs hO => by
    have hrl := right_len hr
    have k2 := (b2.ext x (by simp)).cell 0
    have k3 := (b3.ext x (by simp)).cell 0
    exact at1_Twin W' ((((w.alloc (.cells #[.int .u64 (s : Int), .slice a l.length c] 25)).alloc (.cells #[.int .u64 (k : Int)] 22)).alloc (.cells #[.func (.func 56) #[] caps] 88)).alloc (.cells #[.int .u64 0, .slice none 0 0] 25)).heap.size (w.heap.size + 1) (w.heap.size + 1 + 1) (((((w.alloc (.cells #[.int .u64 (s : Int), .slice a l.length c] 25)).alloc (.cells #[.int .u64 (k : Int)] 22)).alloc (.cells #[.func (.func 56) #[] caps] 88)).alloc (.cells #[.int .u64 0, .slice none 0 0] 25)).heap.size + 2) s k vv l rs caps E C D hb hO k2 k3 (chk_sorted hrl.2.2) (by have := hrl.2.1; dsimp only at this; omega) (fun hn => ⟨(h4 hn).1, fun s v u xu => (h4 hn).2 s v u (hE.trans (x.trans xu))⟩)
      (fun W'' i p x2 hp hn hf => hd hr ((((w.alloc (.cells #[.int .u64 (s : Int), .slice a l.length c] 25)).alloc (.cells #[.int .u64 (k : Int)] 22)).alloc (.cells #[.func (.func 56) #[] caps] 88)).alloc (.cells #[.int .u64 0, .slice none 0 0] 25)).heap.size (((((w.alloc (.cells #[.int .u64 (s : Int), .slice a l.length c] 25)).alloc (.cells #[.int .u64 (k : Int)] 22)).alloc (.cells #[.func (.func 56) #[] caps] 88)).alloc (.cells #[.int .u64 0, .slice none 0 0] 25)).heap.size + 2) W' vv rs (hE.trans x) (by have := hsz; omega) (by omega) hs hb hO W'' i p x2 hp hn hf))
  clear hd h4
  cases hr : right ⟨s, l⟩
  · rw [hr] at ch
    clear hr
    go_enter Try.func55, Try.ntmps55
    go_upto_region 1 with (fail)
    generalize (((w.alloc (.cells #[.int .u64 (s : Int), .slice a l.length c] 25)).alloc (.cells #[.int .u64 (k : Int)] 22)).alloc (.cells #[.func (.func 56) #[] caps] 88)).alloc (.cells #[.int .u64 0, .slice none 0 0] 25) = W at *
    generalize hwb : w.heap.size = wb at *
    have HWB := Lib.hid hwb
    have HSZ := Lib.hid hsz
    clear hwb hsz
    obtain ⟨n0, n1⟩ := b1.c2
    go_wp2_with (go_at_call 50; (with_reducible refine ch.mono ?_); rintro e w1 ⟨h1, _⟩; obtain ⟨rfl, x1⟩ := h1 rfl; clear h1; have b4 := b4.ext x1 (by simp); obtain ⟨r0, r1⟩ := b4.c2; have rf := b4.frozen)
    refine ret_cell_tmp Try.results55 rfl ((b4.set 0 (.int .u64 0)).set 1 (.slice none 0 0)) Try.underlying25 rfl net_info rfl ⟨fun _ => ⟨rfl, ?_⟩, fun h => by cases h⟩
    exact (hE.trans x1).trans' (((Ext.refl [wb + 1 + 1 + 1] w1).setCell (p := ⟨wb + 1 + 1 + 1, 0, none⟩) (.inl (by simp)) (.int .u64 0)).setCell (p := ⟨wb + 1 + 1 + 1, 1, none⟩) (.inl (by simp)) (.slice none 0 0)) (fun i hi => .inr (by have := HWB.out; simp at hi; omega))
  · rw [hr] at ch
    clear hr
    go_enter Try.func55, Try.ntmps55
    go_upto_region 1 with (fail)
    generalize (((w.alloc (.cells #[.int .u64 (s : Int), .slice a l.length c] 25)).alloc (.cells #[.int .u64 (k : Int)] 22)).alloc (.cells #[.func (.func 56) #[] caps] 88)).alloc (.cells #[.int .u64 0, .slice none 0 0] 25) = W at *
    generalize hwb : w.heap.size = wb at *
    have HWB := Lib.hid hwb
    have HSZ := Lib.hid hsz
    clear hwb hsz
    obtain ⟨n0, n1⟩ := b1.c2
    have b4X : ∀ w1 w2, Ext C W w1 → NetX W w1 w2 → Blk w2 (wb + 1 + 1 + 1) 25 [.int .u64 0, .slice none 0 0] := by
      intro w1 w2 x y
      have hx := y.old x
      exact b4.ext hx (fun m => by have := hC _ m; omega)
    by_cases hz : E = 0
    · subst hz
      go_wp2_with (go_at_call 50; (with_reducible refine ch.mono ?_); rintro e w2 ⟨_, h1⟩; obtain ⟨w1, s1, v1, y1, x1, ⟨a1, n1, c1, rfl⟩, hD1, rfl⟩ := h1 rfl; clear h1; have b4 := b4X w1 w2 x1 y1; obtain ⟨r0, r1⟩ := b4.c2; have rf := b4.frozen; have HD := Lib.hid (And.intro y1 (And.intro x1 hD1)); clear y1 x1 hD1)
      refine ret_cell_tmp Try.results55 rfl ((b4.set 0 (.int .u64 (s1 : Int))).set 1 (.slice a1 n1 c1)) Try.underlying25 rfl net_info rfl ⟨fun h => (by cases h), fun _ => ⟨w1, s1, .slice a1 n1 c1, ?_, ?_, ⟨_, _, _, rfl⟩, HD.out.2.2, rfl⟩⟩
      · exact (HD.out.1.wide (by have := HSZ.out; have := HWB.out; omega)).cells b4 (by have := HWB.out; omega) (((Ext.refl [wb + 1 + 1 + 1] w2).setCell (p := ⟨wb + 1 + 1 + 1, 0, none⟩) (.inl (by simp)) (.int .u64 (s1 : Int))).setCell (p := ⟨wb + 1 + 1 + 1, 1, none⟩) (.inl (by simp)) (.slice a1 n1 c1))
      · exact (hE.mono (by simp)).trans HD.out.2.1
    · have HZ := Lib.hid hz
      clear hz
      go_wp2_with (go_at_call 50; (with_reducible refine ch.mono ?_); rintro e w2 ⟨_, h1⟩; obtain ⟨w1, s1, v1, y1, x1, ⟨a1, n1, c1, rfl⟩, hD1, rfl⟩ := h1 rfl; clear h1; rw [if_neg HZ.out]; have b4 := b4X w1 w2 x1 y1; obtain ⟨r0, r1⟩ := b4.c2; have rf := b4.frozen; have HD := Lib.hid (And.intro y1 (And.intro x1 hD1)); clear y1 x1 hD1)
      refine ret_cell_tmp Try.results55 rfl ((b4.set 0 (.int .u64 0)).set 1 (.slice none 0 0)) Try.underlying25 rfl net_info rfl ⟨fun h => (by cases h), fun _ => ⟨w1, s1, .slice a1 n1 c1, ?_, ?_, ⟨_, _, _, rfl⟩, HD.out.2.2, by rw [if_neg HZ.out]; rfl⟩⟩
      · exact (HD.out.1.wide (by have := HSZ.out; have := HWB.out; omega)).cells b4 (by have := HWB.out; omega) (((Ext.refl [wb + 1 + 1 + 1] w2).setCell (p := ⟨wb + 1 + 1 + 1, 0, none⟩) (.inl (by simp)) (.int .u64 0)).setCell (p := ⟨wb + 1 + 1 + 1, 1, none⟩) (.inl (by simp)) (.slice none 0 0))
      · exact (hE.mono (by simp)).trans HD.out.2.1
set_option maxRecDepth 100000 in
set_option maxHeartbeats 4000000 in
theorem changedAt_Spoil (w : World) (s k : Nat) (v : Value) (l : List Par) (hP : Ps w v l) (caps : Array Value) (E : Int) (C : List Nat) (hC : ∀ k ∈ C, k < w.heap.size) (D : Nat → Value → World → Prop)
    (h4 : fnd l k = l.length → E = 4 ∧ ∀ s v w', Ext [] w w' → D s v w')
    (hd : right ⟨s, l⟩ = true → ∀ b S W vv rs, Ext [] w W → w.heap.size ≤ b → b < S → S ≤ W.heap.size → Blk W b 25 [.int .u64 (s : Int), vv] → OPs S W vv l rs → ∀ W' i p, Ext [] W W' → l[i]? = some p → p.num = k → fnd l k = i →
      Calls Try.prog 60 (#[pt b, .int .i64 (i : Int)] ++ caps) W' fun e w' => ∃ (s' : Nat) (v' : Value), (∃ a' n' c', v' = .slice a' n' c') ∧ e = .returned (.int .i64 E) ∧ Blk w' b 25 [.int .u64 (s' : Int), v'] ∧ D s' v' w' ∧ Did S b C W' w') :
    Calls Try.prog 55 #[NV s v, .int .u64 (k : Int), .func (.func 60) #[] caps] w (ChangedAt w (right ⟨s, l⟩) E C D) := by
  obtain ⟨a, c, rfl⟩ := hP.shape
  have e1 := (Ext.refl [] w).alloc (.cells #[.int .u64 (s : Int), .slice a l.length c] 25)
  have e2 := (Ext.refl [] (w.alloc (.cells #[.int .u64 (s : Int), .slice a l.length c] 25))).alloc (.cells #[.int .u64 (k : Int)] 22)
  have e3 := (Ext.refl [] ((w.alloc (.cells #[.int .u64 (s : Int), .slice a l.length c] 25)).alloc (.cells #[.int .u64 (k : Int)] 22))).alloc (.cells #[.func (.func 60) #[] caps] 88)
  have e4 := (Ext.refl [] (((w.alloc (.cells #[.int .u64 (s : Int), .slice a l.length c] 25)).alloc (.cells #[.int .u64 (k : Int)] 22)).alloc (.cells #[.func (.func 60) #[] caps] 88))).alloc (.cells #[.int .u64 0, .slice none 0 0] 25)
  have b1 := (Blk.new w [.int .u64 (s : Int), .slice a l.length c] 25).ext ((e2.trans e3).trans e4) (by simp)
  have b2 := (Blk.new (w.alloc (.cells #[.int .u64 (s : Int), .slice a l.length c] 25)) [.int .u64 (k : Int)] 22).ext (e3.trans e4) (by simp)
  have b3 := (Blk.new ((w.alloc (.cells #[.int .u64 (s : Int), .slice a l.length c] 25)).alloc (.cells #[.int .u64 (k : Int)] 22)) [.func (.func 60) #[] caps] 88).ext e4 (by simp)
  have b4 := Blk.new (((w.alloc (.cells #[.int .u64 (s : Int), .slice a l.length c] 25)).alloc (.cells #[.int .u64 (k : Int)] 22)).alloc (.cells #[.func (.func 60) #[] caps] 88)) [.int .u64 0, .slice none 0 0] 25
  have hE := ((e1.trans e2).trans e3).trans e4
  simp only [World.size_alloc] at b2 b3 b4
  have hP := hP.ext hE
  have hsz : ((((w.alloc (.cells #[.int .u64 (s : Int), .slice a l.length c] 25)).alloc (.cells #[.int .u64 (k : Int)] 22)).alloc (.cells #[.func (.func 60) #[] caps] 88)).alloc (.cells #[.int .u64 0, .slice none 0 0] 25)).heap.size = w.heap.size + 4 := by simp
  clear e1 e2 e3 e4
  have ch := changed_At ((((w.alloc (.cells #[.int .u64 (s : Int), .slice a l.length c] 25)).alloc (.cells #[.int .u64 (k : Int)] 22)).alloc (.cells #[.func (.func 60) #[] caps] 88)).alloc (.cells #[.int .u64 0, .slice none 0 0] 25)) s _ l hP #[pt (w.heap.size + 1), pt (w.heap.size + 1 + 1)] E C (fun k hk => by have := hC k hk; have := hsz; omega) D (fun hr W' vv rs x hb hs hO => by
    have hrl := right_len hr
    have k2 := (b2.ext x (by simp)).cell 0
    have k3 := (b3.ext x (by simp)).cell 0
    exact at1_Spoil W' ((((w.alloc (.cells #[.int .u64 (s : Int), .slice a l.length c] 25)).alloc (.cells #[.int .u64 (k : Int)] 22)).alloc (.cells #[.func (.func 60) #[] caps] 88)).alloc (.cells #[.int .u64 0, .slice none 0 0] 25)).heap.size (w.heap.size + 1) (w.heap.size + 1 + 1) (((((w.alloc (.cells #[.int .u64 (s : Int), .slice a l.length c] 25)).alloc (.cells #[.int .u64 (k : Int)] 22)).alloc (.cells #[.func (.func 60) #[] caps] 88)).alloc (.cells #[.int .u64 0, .slice none 0 0] 25)).heap.size + 2) s k vv l rs caps E C D hb hO k2 k3 (chk_sorted hrl.2.2) (by have := hrl.2.1; dsimp only at this; omega) (fun hn => ⟨(h4 hn).1, fun s v u xu => (h4 hn).2 s v u (hE.trans (x.trans xu))⟩)
      (fun W'' i p x2 hp hn hf => hd hr ((((w.alloc (.cells #[.int .u64 (s : Int), .slice a l.length c] 25)).alloc (.cells #[.int .u64 (k : Int)] 22)).alloc (.cells #[.func (.func 60) #[] caps] 88)).alloc (.cells #[.int .u64 0, .slice none 0 0] 25)).heap.size (((((w.alloc (.cells #[.int .u64 (s : Int), .slice a l.length c] 25)).alloc (.cells #[.int .u64 (k : Int)] 22)).alloc (.cells #[.func (.func 60) #[] caps] 88)).alloc (.cells #[.int .u64 0, .slice none 0 0] 25)).heap.size + 2) W' vv rs (hE.trans x) (by have := hsz; omega) (by omega) hs hb hO W'' i p x2 hp hn hf))
  clear hd h4
  cases hr : right ⟨s, l⟩
  · rw [hr] at ch
    clear hr
    go_enter Try.func55, Try.ntmps55
    go_upto_region 1 with (fail)
    generalize (((w.alloc (.cells #[.int .u64 (s : Int), .slice a l.length c] 25)).alloc (.cells #[.int .u64 (k : Int)] 22)).alloc (.cells #[.func (.func 60) #[] caps] 88)).alloc (.cells #[.int .u64 0, .slice none 0 0] 25) = W at *
    generalize hwb : w.heap.size = wb at *
    have HWB := Lib.hid hwb
    have HSZ := Lib.hid hsz
    clear hwb hsz
    obtain ⟨n0, n1⟩ := b1.c2
    go_wp2_with (go_at_call 50; (with_reducible refine ch.mono ?_); rintro e w1 ⟨h1, _⟩; obtain ⟨rfl, x1⟩ := h1 rfl; clear h1; have b4 := b4.ext x1 (by simp); obtain ⟨r0, r1⟩ := b4.c2; have rf := b4.frozen)
    refine ret_cell_tmp Try.results55 rfl ((b4.set 0 (.int .u64 0)).set 1 (.slice none 0 0)) Try.underlying25 rfl net_info rfl ⟨fun _ => ⟨rfl, ?_⟩, fun h => by cases h⟩
    exact (hE.trans x1).trans' (((Ext.refl [wb + 1 + 1 + 1] w1).setCell (p := ⟨wb + 1 + 1 + 1, 0, none⟩) (.inl (by simp)) (.int .u64 0)).setCell (p := ⟨wb + 1 + 1 + 1, 1, none⟩) (.inl (by simp)) (.slice none 0 0)) (fun i hi => .inr (by have := HWB.out; simp at hi; omega))
  · rw [hr] at ch
    clear hr
    go_enter Try.func55, Try.ntmps55
    go_upto_region 1 with (fail)
    generalize (((w.alloc (.cells #[.int .u64 (s : Int), .slice a l.length c] 25)).alloc (.cells #[.int .u64 (k : Int)] 22)).alloc (.cells #[.func (.func 60) #[] caps] 88)).alloc (.cells #[.int .u64 0, .slice none 0 0] 25) = W at *
    generalize hwb : w.heap.size = wb at *
    have HWB := Lib.hid hwb
    have HSZ := Lib.hid hsz
    clear hwb hsz
    obtain ⟨n0, n1⟩ := b1.c2
    have b4X : ∀ w1 w2, Ext C W w1 → NetX W w1 w2 → Blk w2 (wb + 1 + 1 + 1) 25 [.int .u64 0, .slice none 0 0] := by
      intro w1 w2 x y
      have hx := y.old x
      exact b4.ext hx (fun m => by have := hC _ m; omega)
    by_cases hz : E = 0
    · subst hz
      go_wp2_with (go_at_call 50; (with_reducible refine ch.mono ?_); rintro e w2 ⟨_, h1⟩; obtain ⟨w1, s1, v1, y1, x1, ⟨a1, n1, c1, rfl⟩, hD1, rfl⟩ := h1 rfl; clear h1; have b4 := b4X w1 w2 x1 y1; obtain ⟨r0, r1⟩ := b4.c2; have rf := b4.frozen; have HD := Lib.hid (And.intro y1 (And.intro x1 hD1)); clear y1 x1 hD1)
      refine ret_cell_tmp Try.results55 rfl ((b4.set 0 (.int .u64 (s1 : Int))).set 1 (.slice a1 n1 c1)) Try.underlying25 rfl net_info rfl ⟨fun h => (by cases h), fun _ => ⟨w1, s1, .slice a1 n1 c1, ?_, ?_, ⟨_, _, _, rfl⟩, HD.out.2.2, rfl⟩⟩
      · exact (HD.out.1.wide (by have := HSZ.out; have := HWB.out; omega)).cells b4 (by have := HWB.out; omega) (((Ext.refl [wb + 1 + 1 + 1] w2).setCell (p := ⟨wb + 1 + 1 + 1, 0, none⟩) (.inl (by simp)) (.int .u64 (s1 : Int))).setCell (p := ⟨wb + 1 + 1 + 1, 1, none⟩) (.inl (by simp)) (.slice a1 n1 c1))
      · exact (hE.mono (by simp)).trans HD.out.2.1
    · have HZ := Lib.hid hz
      clear hz
      go_wp2_with (go_at_call 50; (with_reducible refine ch.mono ?_); rintro e w2 ⟨_, h1⟩; obtain ⟨w1, s1, v1, y1, x1, ⟨a1, n1, c1, rfl⟩, hD1, rfl⟩ := h1 rfl; clear h1; rw [if_neg HZ.out]; have b4 := b4X w1 w2 x1 y1; obtain ⟨r0, r1⟩ := b4.c2; have rf := b4.frozen; have HD := Lib.hid (And.intro y1 (And.intro x1 hD1)); clear y1 x1 hD1)
      refine ret_cell_tmp Try.results55 rfl ((b4.set 0 (.int .u64 0)).set 1 (.slice none 0 0)) Try.underlying25 rfl net_info rfl ⟨fun h => (by cases h), fun _ => ⟨w1, s1, .slice a1 n1 c1, ?_, ?_, ⟨_, _, _, rfl⟩, HD.out.2.2, by rw [if_neg HZ.out]; rfl⟩⟩
      · exact (HD.out.1.wide (by have := HSZ.out; have := HWB.out; omega)).cells b4 (by have := HWB.out; omega) (((Ext.refl [wb + 1 + 1 + 1] w2).setCell (p := ⟨wb + 1 + 1 + 1, 0, none⟩) (.inl (by simp)) (.int .u64 0)).setCell (p := ⟨wb + 1 + 1 + 1, 1, none⟩) (.inl (by simp)) (.slice none 0 0))
      · exact (hE.mono (by simp)).trans HD.out.2.1
end Go.Proofs.Ytpdfmeaemlgniaa
