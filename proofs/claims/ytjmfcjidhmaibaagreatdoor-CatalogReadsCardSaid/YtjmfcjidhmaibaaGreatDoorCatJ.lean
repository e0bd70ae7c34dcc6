/-
  Copies of lists: slices.Clone, Grow, Concat.
-/
import Derived.Test.YtjmfcjidhmaibaaGreatDoorCatI
import Derived.Lib.SliceRun
import Derived.Lib.AppendZeros
namespace Go.Proofs.YtjmfcjidhmaibaaGreatDoor
open Go.RowKit
open Go.Lib hiding intOf
set_option linter.unusedVariables false

abbrev zCol : Value := .agg #[.string ⟨#[]⟩, .int .i64 0]
abbrev zTab : Value := .agg #[.string ⟨#[]⟩, .slice none 0 0, .slice none 0 0]
theorem TCol : SliceTy Tryz.prog 38 67 2 24 zCol := SliceTy.mk' (by kernel_rfl) (by kernel_rfl) rfl (by decide)
theorem TInt : SliceTy Tryz.prog 39 3 1 8 (.int .i64 0) := SliceTy.mk' (by kernel_rfl) (by kernel_rfl) rfl (by decide)
theorem TTab : SliceTy Tryz.prog 22 41 3 64 zTab := SliceTy.mk' (by kernel_rfl) (by kernel_rfl) rfl (by decide)

theorem Sl.any_none {w : World} {ob size n : Nat} {xs : List Value} (h : Sl w (.slice none 0 0) ob size n xs) (o' : Nat) : Sl w (.slice none 0 0) o' size n xs := by
  rcases h.2 with h2 | ⟨off, sp, cap, h1, _⟩
  · exact ⟨h.1, .inl h2⟩
  · simp at h1
set_option maxHeartbeats 1000000 in
theorem clone_col (w : World) (v : Value) (ob : Nat) (l : List Col) (hC : Cs w v ob l) (hl : l.length ≤ 1000) :
    Calls Tryz.prog 57 #[v] w fun e w' => (∃ v' o', e = .returned v' ∧ w.heap.size ≤ o' ∧ Cs w' v' o' l) ∧ Ext [] w w' := by
  obtain ⟨a, c, rfl⟩ := hC.shape
  have q := fun W => Lib.run_eql_slice_nil (P := Tryz.prog) W 38 67 a l.length c 0 0 Tryz.underlying38
  have hE := (Ext.refl [] w).alloc (.cells #[] 67)
  cases a
  · have hn : l = [] := by
      rcases hC.2 with ⟨_, h2⟩ | ⟨off, sp, cap, h1, _⟩
      · exact List.eq_nil_of_length_eq_zero h2
      · simp at h1
    subst hn
    clear hC hl hE
    simp only [List.length_nil] at *
    go_enter Tryz.func57, Tryz.ntmps57
    go_wp2_with (fail)
    go_ret
    refine ⟨⟨.slice none 0 0, w.heap.size, ?_, Nat.le_refl _, ?_⟩, ?_⟩
    · rfl
    · exact Sl.nil _ _ _
    · exact Ext.refl _ _
  · go_enter Tryz.func57, Tryz.ntmps57
    go_wp2_with (at_builtin; refine wpList_append_sl TCol rfl (.tmp 5) (.tmp 6) rfl rfl (World.ownsRow_made w #[] 0 (Nat.le_refl _) (by decide) rfl) rfl (hC.ext hE (by simp)) (crows_one l) (by unfold maxLen; omega) (by omega) (by simp) ?_; intro v' w3 hO' h3)
    go_ret
    obtain ⟨o', h4, h5⟩ := Sl.of_own hO'
    rw [Nat.zero_add, List.nil_append] at h4
    have hX := hE.trans' h3 (fun i hi => .inr (own_ge (size := 1) (xs := []) (e := 0) (World.ownsRow_made w #[] 0 (Nat.le_refl _) (by decide) rfl) i hi))
    rcases h5 with rfl | h5
    · exact ⟨⟨_, w.heap.size, rfl, Nat.le_refl _, Sl.any_none h4 w.heap.size⟩, hX⟩
    · exact ⟨⟨_, o', rfl, h5.1, h4⟩, hX⟩
set_option maxHeartbeats 1000000 in
theorem clone_int (w : World) (v : Value) (ob : Nat) (l : List Int) (hC : Is w v ob l) (hl : l.length ≤ 1000) :
    Calls Tryz.prog 58 #[v] w fun e w' => (∃ v' o', e = .returned v' ∧ w.heap.size ≤ o' ∧ Is w' v' o' l) ∧ Ext [] w w' := by
  obtain ⟨a, c, rfl⟩ := hC.shape
  have q := fun W => Lib.run_eql_slice_nil (P := Tryz.prog) W 39 3 a l.length c 0 0 Tryz.underlying39
  have hE := (Ext.refl [] w).alloc (.cells #[] 3)
  cases a
  · have hn : l = [] := by
      rcases hC.2 with ⟨_, h2⟩ | ⟨off, sp, cap, h1, _⟩
      · exact List.eq_nil_of_length_eq_zero h2
      · simp at h1
    subst hn
    clear hC hl hE
    simp only [List.length_nil] at *
    go_enter Tryz.func58, Tryz.ntmps58
    go_wp2_with (fail)
    go_ret
    refine ⟨⟨.slice none 0 0, w.heap.size, ?_, Nat.le_refl _, ?_⟩, ?_⟩
    · rfl
    · exact Sl.nil _ _ _
    · exact Ext.refl _ _
  · go_enter Tryz.func58, Tryz.ntmps58
    go_wp2_with (at_builtin; refine wpList_append_sl TInt rfl (.tmp 5) (.tmp 6) rfl rfl (World.ownsRow_made w #[] 0 (Nat.le_refl _) (by decide) rfl) rfl (hC.ext hE (by simp)) (by intro u hu; obtain ⟨x, _, rfl⟩ := List.mem_map.1 hu; rfl) (by unfold maxLen; omega) (by omega) (by simp) ?_; intro v' w3 hO' h3)
    go_ret
    obtain ⟨o', h4, h5⟩ := Sl.of_own hO'
    rw [Nat.zero_add, List.nil_append] at h4
    have hX := hE.trans' h3 (fun i hi => .inr (own_ge (size := 1) (xs := []) (e := 0) (World.ownsRow_made w #[] 0 (Nat.le_refl _) (by decide) rfl) i hi))
    rcases h5 with rfl | h5
    · exact ⟨⟨_, w.heap.size, rfl, Nat.le_refl _, Sl.any_none h4 w.heap.size⟩, hX⟩
    · exact ⟨⟨_, o', rfl, h5.1, h4⟩, hX⟩
set_option maxRecDepth 100000 in
set_option maxHeartbeats 1000000 in
theorem grow_tab (w : World) (n : Nat) (hn : n ≤ 1000) :
    Calls Tryz.prog 79 #[.slice none 0 0, .int .i64 n] w fun e w' => (∃ v', e = .returned v' ∧ w'.ownsRow w.heap.size 41 3 v' 0 []) ∧ Ext [] w w' := by
  by_cases h0 : n = 0
  · subst h0
    go_enter Tryz.func79, Tryz.ntmps79
    go_wp2_with (fail)
    go_ret
    exact ⟨⟨_, rfl, World.ownsRow_nil _ _ _ _⟩, Ext.refl _ _⟩
  · obtain ⟨i, i1, i2, i3, i4⟩ := TTab.info
    have hr := Lib.run_append_nil_zeros (P := Tryz.prog) w 22 3 22 41 i zTab .i64 .i64 Tryz.underlying22 Tryz.underlying3 i1 i2 n (by omega) (by omega) (by omega) (by rw [i4]; omega)
    have hc1 := grownCap_ge w n 0 41
    have hc2 := grownCap_le_maxLen w n 0 41 (by unfold maxLen; omega)
    have hE := (Ext.refl [] w).drew.alloc (.cells (Builtin.zeroCells zTab.cells n ++ Builtin.zeroCells zTab.cells (grownCap w n 0 41 - n)) 41)
    have hO : (w.drew.alloc (.cells (Builtin.zeroCells zTab.cells n ++ Builtin.zeroCells zTab.cells (grownCap w n 0 41 - n)) 41)).ownsRow w.heap.size 41 3 (.slice (some ⟨w.heap.size, 0, none⟩) 0 (grownCap w n 0 41)) 0 [] :=
      World.ownsRow_made w.drew _ _ (Nat.le_refl _) hc2 (by rw [Array.size_append, size_zeroCells, size_zeroCells, show zTab.cells.size = 3 from rfl]; omega)
    generalize (Builtin.zeroCells zTab.cells n ++ Builtin.zeroCells zTab.cells (grownCap w n 0 41 - n)) = cs at *
    generalize grownCap w n 0 41 = cap at *
    have hr := Lib.hid hr
    have hO := Lib.hid hO
    clear i1 i2 i3 i4 hc1 hc2
    go_enter Tryz.func79, Tryz.ntmps79
    go_wp2_with (at_builtin; refine Lib.wpList_append_run _ rfl (.tmp 20) (.tmp 21) _ _ rfl _ _ rfl rfl _ _ hr.out ?_)
    go_ret
    exact ⟨⟨_, rfl, hO.out⟩, hE⟩
set_option maxHeartbeats 2000000 in
theorem concat_tab (w : World) (b : Nat) (v1 v2 : Value) (o1 o2 : Nat) (rs1 rs2 : List Raw) (l1 l2 : List Tab) (h1 : Rs w v1 o1 rs1) (h2 : Rs w v2 o2 rs2) (r1 : RIs [] w rs1 l1) (r2 : RIs [] w rs2 l2) (n1 : rs1.length ≤ 100) (n2 : rs2.length ≤ 100)
    (c1 : w.cell? ⟨b, 0, none⟩ = some v1) (c2 : w.cell? ⟨b, 1, none⟩ = some v2) :
    Calls Tryz.prog 56 #[.slice (some ⟨b, 0, none⟩) 2 2] w fun e w' => (∃ v', e = .returned v' ∧ w'.ownsRow w.heap.size 41 3 v' (rs1 ++ rs2).length (rrows (rs1 ++ rs2))) ∧ Ext [] w w' := by
  obtain ⟨a1, m1, rfl⟩ := h1.shape
  obtain ⟨a2, m2, rfl⟩ := h2.shape
  go_enter Tryz.func56, Tryz.ntmps56
  go_wp2_with (fail)
  go_loop [11, 3] (fun i s => ∃ k m : Nat, i = .int .i64 k ∧ s = .int .i64 m ∧ k ≤ 2 ∧ Hid ((k = 0 → m = 0) ∧ (k = 1 → m = rs1.length) ∧ (k = 2 → m = rs1.length + rs2.length))) (fun i s => 2 - (intOf i).toNat)
  case atStart => exact ⟨0, 0, rfl, rfl, by omega, ⟨fun _ => rfl, fun h => by omega, fun h => by omega⟩⟩
  case round =>
    obtain ⟨k, m, rfl, rfl, hk, hm⟩ := hrel
    by_cases k0 : k = 0
    · obtain rfl : m = 0 := hm.out.1 k0
      subst k0
      clear hm
      go_wp2_with (fail)
      go_round
      case rel => exact ⟨1, rs1.length, rfl, by go_num, by omega, ⟨fun h => by omega, fun _ => rfl, fun h => by omega⟩⟩
      case measure => simp [intOf]
    · by_cases k1 : k = 1
      · obtain rfl : m = rs1.length := hm.out.2.1 k1
        subst k1
        clear hm k0
        go_wp2_with (fail)
        go_round
        case rel => exact ⟨2, rs1.length + rs2.length, rfl, by go_num, by omega, ⟨fun h => by omega, fun h => by omega, fun _ => rfl⟩⟩
        case measure => simp [intOf]
      · obtain rfl : k = 2 := by omega
        obtain rfl : m = rs1.length + rs2.length := hm.out.2.2 rfl
        clear hm k0 k1
        have hg := grow_tab w (rs1.length + rs2.length) (by omega)
        rw [Int.natCast_add] at hg
        go_wp2_with (go_at_call 79; (with_reducible refine hg.mono ?_); rintro e w1 ⟨⟨vg, rfl, hO⟩, x1⟩)
        go_loopw [6, 27] (fun v i wr => ∃ (k : Nat) (rs : List Raw), i = .int .i64 k ∧ k ≤ 2 ∧ wr.ownsRow w.heap.size 41 3 v rs.length (rrows rs) ∧ Ext [] w wr ∧ Hid ((k = 0 → rs = []) ∧ (k = 1 → rs = rs1) ∧ (k = 2 → rs = rs1 ++ rs2))) (fun v i _ => 2 - (intOf i).toNat)
        case atStart => exact ⟨0, [], rfl, by omega, hO, x1, ⟨fun _ => rfl, fun h => by omega, fun h => by omega⟩⟩
        case round =>
          obtain ⟨k, rs, rfl, hk, hO, hX, hm⟩ := hrel
          clear x1 hg
          have d1 := cells_ext hX c1
          have d2 := cells_ext hX c2
          by_cases k0 : k = 0
          · obtain rfl : rs = [] := hm.out.1 k0
            subst k0
            clear hm
            have s1 := h1.ext hX (by simp)
            go_wp2_with (at_builtin; refine wpList_append_sl TTab rfl (.tmp 31) (.tmp 32) rfl rfl hO rfl s1 (rrows_one r1) (by simp; unfold maxLen; omega) (by simp; omega) hX.size ?_; intro v' w3 hO' h3; have hX3 := hX.trans' h3 (fun i hi => .inr (own_ge hO i hi)))
            go_roundw
            case rel => exact ⟨1, rs1, rfl, by omega, by simpa [rrows] using hO', hX3, ⟨fun h => by omega, fun _ => rfl, fun h => by omega⟩⟩
            case measure => simp [intOf]
          · by_cases k1 : k = 1
            · obtain rfl : rs = rs1 := hm.out.2.1 k1
              subst k1
              clear hm k0
              have s2 := h2.ext hX (by simp)
              go_wp2_with (at_builtin; refine wpList_append_sl TTab rfl (.tmp 31) (.tmp 32) rfl rfl hO rfl s2 (rrows_one r2) (by unfold maxLen; omega) (by omega) hX.size ?_; intro v' w3 hO' h3; have hX3 := hX.trans' h3 (fun i hi => .inr (own_ge hO i hi)))
              go_roundw
              case rel => exact ⟨2, rs ++ rs2, rfl, by omega, by rw [List.length_append, rrows_append]; exact hO', hX3, ⟨fun h => by omega, fun h => by omega, fun _ => rfl⟩⟩
              case measure => simp [intOf]
            · obtain rfl : k = 2 := by omega
              obtain rfl : rs = rs1 ++ rs2 := hm.out.2.2 rfl
              clear hm k0 k1
              go_wp2_with (fail)
              go_ret
              exact ⟨⟨_, rfl, hO⟩, hX⟩
end Go.Proofs.YtjmfcjidhmaibaaGreatDoor
