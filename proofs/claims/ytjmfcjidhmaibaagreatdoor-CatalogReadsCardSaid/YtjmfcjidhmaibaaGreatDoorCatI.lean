
/-
  Which catalogs may be; what has a name in them: Check, CheckTable, Find, Column.
-/
import Derived.Test.YtjmfcjidhmaibaaGreatDoorCatH
namespace Go.Proofs.YtjmfcjidhmaibaaGreatDoor
open Go.RowKit
open Go.Lib hiding intOf
set_option linter.unusedVariables false

set_option maxHeartbeats 1000000 in
theorem fits_tab (w : World) (v : Value) (l : List Tab) (hC : Ts w v l) (hG : Glob w) (hb : ∀ t ∈ l, t.cols.length ≤ maxLen ∧ t.keys.length ≤ maxLen) (h4 : l.length ≤ 4) :
    Calls Tryz.prog 34 #[v, .int .i64 0, .int .i64 4, .func (.func 35) #[] #[], .func (.func 29) #[] #[]] w fun e w' => e = .returned (.bool (fitsL Tab.n isTab l)) ∧ Ext [] w w' := by
  obtain ⟨a, c, rfl⟩ := hC.shape
  have q1 : decide ((l.length : Int) < 0) = false := by simp
  have q2 : decide ((4 : Int) < (l.length : Int)) = false := by simp; omega
  go_enter Tryz.func34, Tryz.ntmps34
  go_wp2_with (fail)
  go_loopw [27] (fun i wr => ∃ k : Nat, k ≤ l.length ∧ i = .int .i64 k ∧ Ext [] w wr ∧ Hid (∀ (j : Nat) x, j < k → l[j]? = some x → fnd (l.map Tab.n) (Tab.n x) = j ∧ isTab x = true)) (fun i _ => l.length - (intOf i).toNat)
  case atStart => exact ⟨0, by omega, rfl, Ext.refl _ _, fun j x h => by omega⟩
  case round =>
    obtain ⟨k, hk, rfl, hX, hS⟩ := hrel
    by_cases hlt : k < l.length
    · have hx : l[k]? = some l[k] := List.getElem?_eq_getElem hlt
      obtain ⟨ob, o, a1, m1, a2, m2, rfl, c0, c1, c2, ⟨oc, hcs⟩, ok, hks⟩ := (hC.ext hX).at k _ hx
      have hbt := hb _ (List.mem_of_getElem? hx)
      generalize l[k] = t at *
      have hE := (Ext.refl [] wr).alloc (.cells #[.string t.n, .slice a1 t.cols.length m1, .slice a2 t.keys.length m2] 41)
      have d0 := new_cells wr [.string t.n, .slice a1 t.cols.length m1, .slice a2 t.keys.length m2] 41 0 _ rfl
      have d1 := new_cells wr [.string t.n, .slice a1 t.cols.length m1, .slice a2 t.keys.length m2] 41 1 _ rfl
      have d2 := new_cells wr [.string t.n, .slice a1 t.cols.length m1, .slice a2 t.keys.length m2] 41 2 _ rfl
      have hmem : t.n ∈ l.map Tab.n := List.mem_of_getElem? (i := k) (by rw [List.getElem?_map, hx]; rfl)
      have hf := fnd_mem.2 hmem
      rw [List.length_map] at hf
      have fc := fun W (x : Ext [] w W) => find_tab W _ l t.n (hC.ext x) (by unfold maxLen; omega)
      have ic := fun W (x : Ext [] wr W) (g : Glob W) => isTable_any W t a1 m1 a2 m2 oc ok (hcs.ext x (by simp)) (hks.ext x (by simp)) hbt.1 hbt.2 g
      rw [decide_eq_true hf, show fnd0 l.length (fnd (l.map Tab.n) t.n) = (fnd (l.map Tab.n) t.n : Int) by unfold fnd0; rw [if_pos hf]] at fc
      by_cases hm : fnd (l.map Tab.n) t.n = k
      · cases hcl : isTab t
        · have HS := Lib.hid (fitsL_no (f := Tab.n) (q := isTab) hx (Or.inr hcl))
          rw [hcl] at ic
          rw [hm] at fc
          clear hcl hx hmem hf hm hS
          go_upto_region 6 with (fail)
          generalize wr.alloc (.cells #[.string t.n, .slice a1 t.cols.length m1, .slice a2 t.keys.length m2] 41) = W at *
          generalize wr.heap.size = b at *
          go_wp2_with (first
            | (go_at_call 35; (with_reducible refine (nameOfTable_any _ _ _ _ _ _ _ _).mono ?_); rintro e w1 ⟨rfl, x1⟩)
            | (go_at_call 55; (with_reducible refine (fc _ ((hX.trans hE).trans x1)).mono ?_); rintro e w2 ⟨rfl, x2⟩; have e0 := cells_ext x2 (cells_ext x1 d0); have e1 := cells_ext x2 (cells_ext x1 d1); have e2 := cells_ext x2 (cells_ext x1 d2))
            | (go_at_call 29; (with_reducible refine (ic _ ((hE.trans x1).trans x2) (hG.ext (((hX.trans hE).trans x1).trans x2))).mono ?_); rintro e w3 ⟨rfl, x3⟩))
          go_ret
          exact ⟨ret_bool HS.out.symm, (((hX.trans hE).trans x1).trans x2).trans x3⟩
        · have HS : Hid (∀ (j : Nat) x, j < k + 1 → l[j]? = some x → fnd (l.map Tab.n) (Tab.n x) = j ∧ isTab x = true) := by
            intro j x hj hjx
            by_cases e : j = k
            · subst e
              rw [hx] at hjx
              obtain rfl := Option.some.inj hjx
              exact ⟨hm, hcl⟩
            · exact hS.out j x (by omega) hjx
          rw [hcl] at ic
          rw [hm] at fc
          clear hcl hx hmem hf hm hS
          go_upto_region 6 with (fail)
          generalize wr.alloc (.cells #[.string t.n, .slice a1 t.cols.length m1, .slice a2 t.keys.length m2] 41) = W at *
          generalize wr.heap.size = b at *
          go_wp2_with (first
            | (go_at_call 35; (with_reducible refine (nameOfTable_any _ _ _ _ _ _ _ _).mono ?_); rintro e w1 ⟨rfl, x1⟩)
            | (go_at_call 55; (with_reducible refine (fc _ ((hX.trans hE).trans x1)).mono ?_); rintro e w2 ⟨rfl, x2⟩; have e0 := cells_ext x2 (cells_ext x1 d0); have e1 := cells_ext x2 (cells_ext x1 d1); have e2 := cells_ext x2 (cells_ext x1 d2))
            | (go_at_call 29; (with_reducible refine (ic _ ((hE.trans x1).trans x2) (hG.ext (((hX.trans hE).trans x1).trans x2))).mono ?_); rintro e w3 ⟨rfl, x3⟩))
          go_roundw
          case rel => exact ⟨k + 1, by omega, by go_num, (((hX.trans hE).trans x1).trans x2).trans x3, HS⟩
          case measure => simp [intOf]; omega
      · have HS := Lib.hid (fitsL_no (f := Tab.n) (q := isTab) hx (Or.inl hm))
        have q3 : ((fnd (l.map Tab.n) t.n : Int) != (k : Int)) = true := by simp; omega
        generalize fnd (l.map Tab.n) t.n = m at *
        clear hx hmem hm hS ic
        go_upto_region 6 with (fail)
        generalize wr.alloc (.cells #[.string t.n, .slice a1 t.cols.length m1, .slice a2 t.keys.length m2] 41) = W at *
        generalize wr.heap.size = b at *
        go_wp2_with (first
          | (go_at_call 35; (with_reducible refine (nameOfTable_any _ _ _ _ _ _ _ _).mono ?_); rintro e w1 ⟨rfl, x1⟩)
          | (go_at_call 55; (with_reducible refine (fc _ ((hX.trans hE).trans x1)).mono ?_); rintro e w2 ⟨rfl, x2⟩; have e0 := cells_ext x2 (cells_ext x1 d0); have e1 := cells_ext x2 (cells_ext x1 d1); have e2 := cells_ext x2 (cells_ext x1 d2)))
        go_ret
        exact ⟨ret_bool HS.out.symm, ((hX.trans hE).trans x1).trans x2⟩
    · have HS : Hid (fitsL Tab.n isTab l = true) := by
        refine fitsL_yes fun j x hx => hS.out j x ?_ hx
        have := (List.getElem?_eq_some_iff.1 hx).1
        omega
      clear hS
      go_wp2
      go_ret
      exact ⟨ret_bool HS.out.symm, hX⟩
theorem fits_tab_no (w : World) (v : Value) (l : List Tab) (hC : Ts w v l) (h : 4 < l.length) :
    Calls Tryz.prog 34 #[v, .int .i64 0, .int .i64 4, .func (.func 35) #[] #[], .func (.func 29) #[] #[]] w fun e w' => e = .returned (.bool false) ∧ Ext [] w w' := by
  obtain ⟨a, c, rfl⟩ := hC.shape
  have q1 : decide ((l.length : Int) < 0) = false := by simp
  have q2 : decide ((4 : Int) < (l.length : Int)) = true := by simp; omega
  go_enter Tryz.func34, Tryz.ntmps34
  go_wp2_with (fail)
  go_ret
  exact ⟨rfl, Ext.refl _ _⟩
/-- lists of the tables' that a machine can hold -/
def TabsOK (l : List Tab) : Prop := ∀ t ∈ l, t.cols.length ≤ maxLen ∧ t.keys.length ≤ maxLen
theorem fits_tabs (w : World) (v : Value) (l : List Tab) (hC : Ts w v l) (hG : Glob w) (hb : TabsOK l) :
    Calls Tryz.prog 34 #[v, .int .i64 0, .int .i64 4, .func (.func 35) #[] #[], .func (.func 29) #[] #[]] w fun e w' => e = .returned (.bool (isCat l)) ∧ Ext [] w w' := by
  unfold isCat
  by_cases h : l.length ≤ 4
  · rw [decide_eq_true h]
    exact fits_tab w v l hC hG hb h
  · rw [decide_eq_false h, Bool.false_and]
    exact fits_tab_no w v l hC (by omega)
abbrev KV (v : Value) : Value := .agg #[v]
theorem isCatalog_any (w : World) (v : Value) (l : List Tab) (hC : Ts w v l) (hG : Glob w) (hb : TabsOK l) :
    Calls Tryz.prog 17 #[KV v] w fun e w' => e = .returned (.bool (isCat l)) ∧ Ext [] w w' := by
  obtain ⟨a, c, rfl⟩ := hC.shape
  have hE := (Ext.refl [] w).alloc (.cells #[.slice a l.length c] 24)
  have hf := fits_tabs _ _ l (hC.ext hE) (hG.ext hE) hb
  go_enter Tryz.func17, Tryz.ntmps17
  go_wp2_with (go_at_call 34; (with_reducible refine hf.mono ?_); rintro e w1 ⟨rfl, x1⟩)
  go_ret
  exact ⟨rfl, hE.trans x1⟩
theorem Find_any (w : World) (v : Value) (l : List Tab) (name : ByteArray) (hC : Ts w v l) (hl : l.length ≤ maxLen) :
    Calls Tryz.prog 30 #[KV v, .string name] w fun e w' => e = .returned (.tuple #[.int .i64 (fnd0 l.length (fnd (l.map Tab.n) name)), .bool (decide (fnd (l.map Tab.n) name < l.length))]) ∧ Ext [] w w' := by
  obtain ⟨a, c, rfl⟩ := hC.shape
  have hE := (Ext.refl [] w).alloc (.cells #[.slice a l.length c] 24)
  have hf := find_tab _ _ l name (hC.ext hE) hl
  go_enter Tryz.func30, Tryz.ntmps30
  go_wp2_with (go_at_call 55; (with_reducible refine hf.mono ?_); rintro e w1 ⟨rfl, x1⟩)
  go_ret2
  exact ⟨rfl, hE.trans x1⟩
theorem Column_any (w : World) (n : ByteArray) (a1 : Option Addr) (c1 : Nat) (a2 : Option Addr) (n2 c2 : Nat) (oc : Nat) (l : List Col) (name : ByteArray) (hC : Cs w (.slice a1 l.length c1) oc l) (hl : l.length ≤ maxLen) :
    Calls Tryz.prog 15 #[TV n (.slice a1 l.length c1) (.slice a2 n2 c2), .string name] w fun e w' => e = .returned (.tuple #[.int .i64 (fnd0 l.length (fnd (l.map Col.n) name)), .bool (decide (fnd (l.map Col.n) name < l.length))]) ∧ Ext [] w w' := by
  have hE := (Ext.refl [] w).alloc (.cells #[.string n, .slice a1 l.length c1, .slice a2 n2 c2] 41)
  have hf := find_col _ _ oc l name (hC.ext hE (by simp)) hl
  go_enter Tryz.func15, Tryz.ntmps15
  go_wp2_with (go_at_call 32; (with_reducible refine hf.mono ?_); rintro e w1 ⟨rfl, x1⟩)
  go_ret2
  exact ⟨rfl, hE.trans x1⟩
end Go.Proofs.YtjmfcjidhmaibaaGreatDoor
