/-
  What has a name, found: find, over tables and over columns.
-/
import Derived.Test.YtjmfcjidhmaibaaGreatDoorCatG
namespace Go.Proofs.YtjmfcjidhmaibaaGreatDoor
open Go.RowKit
open Go.Lib hiding intOf
set_option linter.unusedVariables false

theorem toList_eq (s t : ByteArray) : (s.toList == t.toList) = decide (s = t) := by
  rw [ByteArray.toList_eq, ByteArray.toList_eq]
  by_cases h : s = t
  · subst h; simp
  · have : ¬ L s = L t := fun e => h (L_inj.1 e)
    rw [decide_eq_false h]
    simpa [L] using this
theorem nameOfTable_any (w : World) (n : ByteArray) (a1 : Option Addr) (n1 c1 : Nat) (a2 : Option Addr) (n2 c2 : Nat) :
    Calls Tryz.prog 35 #[TV n (.slice a1 n1 c1) (.slice a2 n2 c2)] w fun e w' => e = .returned (.string n) ∧ Ext [] w w' := by
  go_enter Tryz.func35, Tryz.ntmps35
  go_wp2
  go_ret
  exact ⟨rfl, (Ext.refl _ _).alloc _⟩
theorem nameOfColumn_any (w : World) (n : ByteArray) (k : Int) :
    Calls Tryz.prog 33 #[CV n k] w fun e w' => e = .returned (.string n) ∧ Ext [] w w' := by
  go_enter Tryz.func33, Tryz.ntmps33
  go_wp2
  go_ret
  exact ⟨rfl, (Ext.refl _ _).alloc _⟩

def Has (w : World) (p : Addr) (u : Value) : Prop := w.cell? p = some u
theorem cells_ext {w w' : World} (he : Ext [] w w') {p : Addr} {u : Value} (h : w.cell? p = some u) : w'.cell? p = some u := he.read h (by simp)
theorem keep1 {W w w' : World} {b0 o0 : Nat} {v0 : Value} (h : ((w).cell? ⟨b0, o0, none⟩ = some v0 ∧ Ext [] W (w))) (e : Ext [] w w') : ((w').cell? ⟨b0, o0, none⟩ = some v0 ∧ Ext [] W (w')) := ⟨e.read h.1 (by simp), h.2.trans e⟩
theorem keep2 {W w w' : World} {b0 o0 b1 o1 : Nat} {v0 v1 : Value} (h : ((w).cell? ⟨b0, o0, none⟩ = some v0 ∧ (w).cell? ⟨b1, o1, none⟩ = some v1 ∧ Ext [] W (w))) (e : Ext [] w w') : ((w').cell? ⟨b0, o0, none⟩ = some v0 ∧ (w').cell? ⟨b1, o1, none⟩ = some v1 ∧ Ext [] W (w')) := ⟨e.read h.1 (by simp), keep1 h.2 e⟩
theorem keep3 {W w w' : World} {b0 o0 b1 o1 b2 o2 : Nat} {v0 v1 v2 : Value} (h : ((w).cell? ⟨b0, o0, none⟩ = some v0 ∧ (w).cell? ⟨b1, o1, none⟩ = some v1 ∧ (w).cell? ⟨b2, o2, none⟩ = some v2 ∧ Ext [] W (w))) (e : Ext [] w w') : ((w').cell? ⟨b0, o0, none⟩ = some v0 ∧ (w').cell? ⟨b1, o1, none⟩ = some v1 ∧ (w').cell? ⟨b2, o2, none⟩ = some v2 ∧ Ext [] W (w')) := ⟨e.read h.1 (by simp), keep2 h.2 e⟩
theorem keep4 {W w w' : World} {b0 o0 b1 o1 b2 o2 b3 o3 : Nat} {v0 v1 v2 v3 : Value} (h : ((w).cell? ⟨b0, o0, none⟩ = some v0 ∧ (w).cell? ⟨b1, o1, none⟩ = some v1 ∧ (w).cell? ⟨b2, o2, none⟩ = some v2 ∧ (w).cell? ⟨b3, o3, none⟩ = some v3 ∧ Ext [] W (w))) (e : Ext [] w w') : ((w').cell? ⟨b0, o0, none⟩ = some v0 ∧ (w').cell? ⟨b1, o1, none⟩ = some v1 ∧ (w').cell? ⟨b2, o2, none⟩ = some v2 ∧ (w').cell? ⟨b3, o3, none⟩ = some v3 ∧ Ext [] W (w')) := ⟨e.read h.1 (by simp), keep3 h.2 e⟩
theorem keep5 {W w w' : World} {b0 o0 b1 o1 b2 o2 b3 o3 b4 o4 : Nat} {v0 v1 v2 v3 v4 : Value} (h : ((w).cell? ⟨b0, o0, none⟩ = some v0 ∧ (w).cell? ⟨b1, o1, none⟩ = some v1 ∧ (w).cell? ⟨b2, o2, none⟩ = some v2 ∧ (w).cell? ⟨b3, o3, none⟩ = some v3 ∧ (w).cell? ⟨b4, o4, none⟩ = some v4 ∧ Ext [] W (w))) (e : Ext [] w w') : ((w').cell? ⟨b0, o0, none⟩ = some v0 ∧ (w').cell? ⟨b1, o1, none⟩ = some v1 ∧ (w').cell? ⟨b2, o2, none⟩ = some v2 ∧ (w').cell? ⟨b3, o3, none⟩ = some v3 ∧ (w').cell? ⟨b4, o4, none⟩ = some v4 ∧ Ext [] W (w')) := ⟨e.read h.1 (by simp), keep4 h.2 e⟩
theorem new_cells (w : World) (l : List Value) (e : TypeId) (i : Nat) (u : Value) (h : l[i]? = some u) : (w.alloc (.cells l.toArray e)).cell? ⟨w.heap.size, i, none⟩ = some u := ((Blk.new w l e).cell i).trans h

theorem find_col1 (w : World) (n name : ByteArray) (k : Int) (bn bf : Nat) (h1 : w.cell? ⟨bn, 0, none⟩ = some (.string name)) (h2 : w.cell? ⟨bf, 0, none⟩ = some (.func (.func 33) #[] #[])) :
    Calls Tryz.prog 60 #[CV n k, .pointer (some ⟨bf, 0, none⟩), .pointer (some ⟨bn, 0, none⟩)] w fun e w' => e = .returned (.bool (decide (n = name))) ∧ Ext [] w w' := by
  have hs := toList_eq n name
  have hE := (Ext.refl [] w).alloc (.cells #[.string n, .int .i64 k] 67)
  have g1 := cells_ext hE h1
  have g2 := cells_ext hE h2
  have d0 := new_cells w [.string n, .int .i64 k] 67 0 _ rfl
  have d1 := new_cells w [.string n, .int .i64 k] 67 1 _ rfl
  go_enter Tryz.func60, Tryz.ntmps60
  go_wp2_with (fail)
  generalize w.alloc (.cells #[.string n, .int .i64 k] 67) = W at *
  generalize w.heap.size = b at *
  go_region_held3 (fun w' => w'.cell? ⟨bf, 0, none⟩ = some (.func (.func 33) #[] #[]) ∧ w'.cell? ⟨bn, 0, none⟩ = some (.string name) ∧ w'.cell? ⟨b, 0, none⟩ = some (.string n) ∧ w'.cell? ⟨b, 1, none⟩ = some (.int .i64 k) ∧ Ext [] W w')
    (first | exact ⟨g2, g1, d0, d1, (Ext.refl [] W).drew⟩ | assumption)
    (first | (go_at_call 33; refine (nameOfColumn_any _ _ _).mono ?_; rintro e w1 ⟨rfl, x1⟩; have s1 := keep4 (by assumption) x1))
  go_wp2
  go_ret
  exact ⟨rfl, hE.trans s1.2.2.2.2⟩

def fndI (n : Nat) (k : Nat) : Int := if k < n then (k : Int) else -1
def fnd0 (n : Nat) (k : Nat) : Int := if k < n then (k : Int) else 0
set_option maxHeartbeats 1000000 in
theorem idx_col (w : World) (v : Value) (ob : Nat) (l : List Col) (name : ByteArray) (bn bf : Nat) (hC : Cs w v ob l) (hl : l.length ≤ maxLen) (h1 : w.cell? ⟨bn, 0, none⟩ = some (.string name)) (h2 : w.cell? ⟨bf, 0, none⟩ = some (.func (.func 33) #[] #[])) :
    Calls Tryz.prog 59 #[v, .func (.func 60) #[] #[.pointer (some ⟨bf, 0, none⟩), .pointer (some ⟨bn, 0, none⟩)]] w fun e w' => e = .returned (.int .i64 (fndI l.length (fnd (l.map Col.n) name))) ∧ Ext [] w w' := by
  obtain ⟨a, c, rfl⟩ := hC.shape
  unfold maxLen at hl
  go_enter Tryz.func59, Tryz.ntmps59
  go_wp2_with (fail)
  go_loopw [8] (fun i wr => ∃ k : Nat, k ≤ l.length ∧ i = .int .i64 k ∧ Ext [] w wr ∧ Hid (∀ x ∈ (l.map Col.n).take k, x ≠ name)) (fun i _ => l.length - (intOf i).toNat)
  case atStart => exact ⟨0, by omega, rfl, Ext.refl _ _, by simp [Hid]⟩
  case round =>
    obtain ⟨k, hk, rfl, hX, hS⟩ := hrel
    by_cases hlt : k < l.length
    · obtain ⟨o, N, K, rfl, hx, c0, c1⟩ := (hC.ext hX (by simp)).at k hlt
      have fc := find_col1 wr N name K bn bf (cells_ext hX h1) (cells_ext hX h2)
      have hm : (l.map Col.n)[k]? = some N := by rw [List.getElem?_map, hx]; rfl
      by_cases he : N = name
      · have HF : Hid (fndI l.length (fnd (l.map Col.n) name) = k) := by
          show _ = _
          rw [fnd_here _ _ k (he ▸ hm) hS.out, fndI, if_pos hlt]
        rw [decide_eq_true he] at fc
        clear hx hm hS he
        go_wp2_with (go_at_call 60; (with_reducible refine fc.mono ?_); rintro e w1 ⟨rfl, x1⟩)
        go_ret
        exact ⟨ret_int HF.out.symm, hX.trans x1⟩
      · have HS : Hid (∀ x ∈ (l.map Col.n).take (k + 1), x ≠ name) := by
          show ∀ x ∈ _, _
          intro x hx
          rw [List.take_add_one, hm, List.mem_append] at hx
          rcases hx with hx | hx
          · exact hS.out x hx
          · obtain rfl : x = N := by simpa using hx
            exact he
        rw [decide_eq_false he] at fc
        clear hx hm hS he
        go_wp2_with (go_at_call 60; (with_reducible refine fc.mono ?_); rintro e w1 ⟨rfl, x1⟩)
        go_roundw
        case rel => exact ⟨k + 1, by omega, by go_num, hX.trans x1, HS⟩
        case measure => simp [intOf]; omega
    · have HF : Hid (fndI l.length (fnd (l.map Col.n) name) = -1) := by
        obtain rfl : k = l.length := by omega
        show _ = _
        have := hS.out
        rw [List.take_of_length_le (by simp)] at this
        rw [fnd_none _ _ this, List.length_map, fndI, if_neg (by omega)]
      clear hS
      go_wp2
      go_ret
      exact ⟨ret_int HF.out.symm, hX⟩
set_option maxHeartbeats 1000000 in
theorem find_col (w : World) (v : Value) (ob : Nat) (l : List Col) (name : ByteArray) (hC : Cs w v ob l) (hl : l.length ≤ maxLen) :
    Calls Tryz.prog 32 #[v, .func (.func 33) #[] #[], .string name] w fun e w' => e = .returned (.tuple #[.int .i64 (fnd0 l.length (fnd (l.map Col.n) name)), .bool (decide (fnd (l.map Col.n) name < l.length))]) ∧ Ext [] w w' := by
  have hE1 := (Ext.refl [] w).alloc (.cells #[.func (.func 33) #[] #[]] 69)
  have hE2 := (Ext.refl [] (w.alloc (.cells #[.func (.func 33) #[] #[]] 69))).alloc (.cells #[.string name] 9)
  have d2 := cells_ext hE2 (new_cells w [.func (.func 33) #[] #[]] 69 0 _ rfl)
  have d1 := new_cells (w.alloc (.cells #[.func (.func 33) #[] #[]] 69)) [.string name] 9 0 _ rfl
  rw [World.size_alloc] at d1
  have hE := hE1.trans hE2
  have ic := idx_col _ v ob l name (w.heap.size + 1) w.heap.size (hC.ext hE (by simp)) hl d1 d2
  have hle := fnd_le (l.map Col.n) name
  rw [List.length_map] at hle
  unfold maxLen at hl
  unfold fndI at ic
  unfold fnd0
  by_cases hc : fnd (l.map Col.n) name < l.length
  · rw [if_pos hc] at ic ⊢
    rw [decide_eq_true hc]
    generalize fnd (l.map Col.n) name = k at *
    clear d1 d2
    go_enter Tryz.func32, Tryz.ntmps32
    go_wp2_with (go_at_call 59; (with_reducible refine ic.mono ?_); rintro e w1 ⟨rfl, x1⟩)
    go_ret2
    exact ⟨rfl, hE.trans x1⟩
  · rw [if_neg hc] at ic ⊢
    rw [decide_eq_false hc]
    clear d1 d2
    go_enter Tryz.func32, Tryz.ntmps32
    go_wp2_with (go_at_call 59; (with_reducible refine ic.mono ?_); rintro e w1 ⟨rfl, x1⟩)
    go_ret2
    exact ⟨rfl, hE.trans x1⟩
theorem find_tab1 (w : World) (n name : ByteArray) (a1 : Option Addr) (n1 c1 : Nat) (a2 : Option Addr) (n2 c2 : Nat) (bn bf : Nat) (h1 : w.cell? ⟨bn, 0, none⟩ = some (.string name)) (h2 : w.cell? ⟨bf, 0, none⟩ = some (.func (.func 35) #[] #[])) :
    Calls Tryz.prog 78 #[TV n (.slice a1 n1 c1) (.slice a2 n2 c2), .pointer (some ⟨bf, 0, none⟩), .pointer (some ⟨bn, 0, none⟩)] w fun e w' => e = .returned (.bool (decide (n = name))) ∧ Ext [] w w' := by
  have hs := toList_eq n name
  have hE := (Ext.refl [] w).alloc (.cells #[.string n, (.slice a1 n1 c1), (.slice a2 n2 c2)] 41)
  have g1 := cells_ext hE h1
  have g2 := cells_ext hE h2
  have d0 := new_cells w [.string n, (.slice a1 n1 c1), (.slice a2 n2 c2)] 41 0 _ rfl
  have d1 := new_cells w [.string n, (.slice a1 n1 c1), (.slice a2 n2 c2)] 41 1 _ rfl
  have d2 := new_cells w [.string n, (.slice a1 n1 c1), (.slice a2 n2 c2)] 41 2 _ rfl
  go_enter Tryz.func78, Tryz.ntmps78
  go_wp2_with (fail)
  generalize w.alloc (.cells #[.string n, (.slice a1 n1 c1), (.slice a2 n2 c2)] 41) = W at *
  generalize w.heap.size = b at *
  go_region_held3 (fun w' => w'.cell? ⟨bf, 0, none⟩ = some (.func (.func 35) #[] #[]) ∧ w'.cell? ⟨bn, 0, none⟩ = some (.string name) ∧ w'.cell? ⟨b, 0, none⟩ = some (.string n) ∧ w'.cell? ⟨b, 1, none⟩ = some (.slice a1 n1 c1) ∧ w'.cell? ⟨b, 2, none⟩ = some (.slice a2 n2 c2) ∧ Ext [] W w')
    (first | exact ⟨g2, g1, d0, d1, d2, (Ext.refl [] W).drew⟩ | assumption)
    (first | (go_at_call 35; refine (nameOfTable_any _ _ _ _ _ _ _ _).mono ?_; rintro e w1 ⟨rfl, x1⟩; have s1 := keep5 (by assumption) x1))
  go_wp2
  go_ret
  exact ⟨rfl, hE.trans s1.2.2.2.2.2⟩

set_option maxHeartbeats 1000000 in
theorem idx_tab (w : World) (v : Value) (l : List Tab) (name : ByteArray) (bn bf : Nat) (hC : Ts w v l) (hl : l.length ≤ maxLen) (h1 : w.cell? ⟨bn, 0, none⟩ = some (.string name)) (h2 : w.cell? ⟨bf, 0, none⟩ = some (.func (.func 35) #[] #[])) :
    Calls Tryz.prog 77 #[v, .func (.func 78) #[] #[.pointer (some ⟨bf, 0, none⟩), .pointer (some ⟨bn, 0, none⟩)]] w fun e w' => e = .returned (.int .i64 (fndI l.length (fnd (l.map Tab.n) name))) ∧ Ext [] w w' := by
  obtain ⟨a, c, rfl⟩ := hC.shape
  unfold maxLen at hl
  go_enter Tryz.func77, Tryz.ntmps77
  go_wp2_with (fail)
  go_loopw [8] (fun i wr => ∃ k : Nat, k ≤ l.length ∧ i = .int .i64 k ∧ Ext [] w wr ∧ Hid (∀ x ∈ (l.map Tab.n).take k, x ≠ name)) (fun i _ => l.length - (intOf i).toNat)
  case atStart => exact ⟨0, by omega, rfl, Ext.refl _ _, by simp [Hid]⟩
  case round =>
    obtain ⟨k, hk, rfl, hX, hS⟩ := hrel
    by_cases hlt : k < l.length
    · have hx : l[k]? = some l[k] := List.getElem?_eq_getElem hlt
      obtain ⟨ob, o, a1, c1, a2, c2, rfl, c0, d1, d2, -, -⟩ := (hC.ext hX).at k _ hx
      generalize hN : (l[k]).n = N at *
      have fc := find_tab1 wr N name a1 (l[k]).cols.length c1 a2 (l[k]).keys.length c2 bn bf (cells_ext hX h1) (cells_ext hX h2)
      have hm : (l.map Tab.n)[k]? = some N := by rw [List.getElem?_map, hx, ← hN]; rfl
      by_cases he : N = name
      · have HF : Hid (fndI l.length (fnd (l.map Tab.n) name) = k) := by
          show _ = _
          rw [fnd_here _ _ k (he ▸ hm) hS.out, fndI, if_pos hlt]
        rw [decide_eq_true he] at fc
        clear hx hm hS he hN
        go_wp2_with (go_at_call 78; (with_reducible refine fc.mono ?_); rintro e w1 ⟨rfl, x1⟩)
        go_ret
        exact ⟨ret_int HF.out.symm, hX.trans x1⟩
      · have HS : Hid (∀ x ∈ (l.map Tab.n).take (k + 1), x ≠ name) := by
          show ∀ x ∈ _, _
          intro x hx
          rw [List.take_add_one, hm, List.mem_append] at hx
          rcases hx with hx | hx
          · exact hS.out x hx
          · obtain rfl : x = N := by simpa using hx
            exact he
        rw [decide_eq_false he] at fc
        clear hx hm hS he hN
        go_wp2_with (go_at_call 78; (with_reducible refine fc.mono ?_); rintro e w1 ⟨rfl, x1⟩)
        go_roundw
        case rel => exact ⟨k + 1, by omega, by go_num, hX.trans x1, HS⟩
        case measure => simp [intOf]; omega
    · have HF : Hid (fndI l.length (fnd (l.map Tab.n) name) = -1) := by
        obtain rfl : k = l.length := by omega
        show _ = _
        have := hS.out
        rw [List.take_of_length_le (by simp)] at this
        rw [fnd_none _ _ this, List.length_map, fndI, if_neg (by omega)]
      clear hS
      go_wp2
      go_ret
      exact ⟨ret_int HF.out.symm, hX⟩
set_option maxHeartbeats 1000000 in
theorem find_tab (w : World) (v : Value) (l : List Tab) (name : ByteArray) (hC : Ts w v l) (hl : l.length ≤ maxLen) :
    Calls Tryz.prog 55 #[v, .func (.func 35) #[] #[], .string name] w fun e w' => e = .returned (.tuple #[.int .i64 (fnd0 l.length (fnd (l.map Tab.n) name)), .bool (decide (fnd (l.map Tab.n) name < l.length))]) ∧ Ext [] w w' := by
  have hE1 := (Ext.refl [] w).alloc (.cells #[.func (.func 35) #[] #[]] 54)
  have hE2 := (Ext.refl [] (w.alloc (.cells #[.func (.func 35) #[] #[]] 54))).alloc (.cells #[.string name] 9)
  have d2 := cells_ext hE2 (new_cells w [.func (.func 35) #[] #[]] 54 0 _ rfl)
  have d1 := new_cells (w.alloc (.cells #[.func (.func 35) #[] #[]] 54)) [.string name] 9 0 _ rfl
  rw [World.size_alloc] at d1
  have hE := hE1.trans hE2
  have ic := idx_tab _ v l name (w.heap.size + 1) w.heap.size (hC.ext hE) hl d1 d2
  have hle := fnd_le (l.map Tab.n) name
  rw [List.length_map] at hle
  unfold maxLen at hl
  unfold fndI at ic
  unfold fnd0
  by_cases hc : fnd (l.map Tab.n) name < l.length
  · rw [if_pos hc] at ic ⊢
    rw [decide_eq_true hc]
    generalize fnd (l.map Tab.n) name = k at *
    clear d1 d2
    go_enter Tryz.func55, Tryz.ntmps55
    go_wp2_with (go_at_call 77; (with_reducible refine ic.mono ?_); rintro e w1 ⟨rfl, x1⟩)
    go_ret2
    exact ⟨rfl, hE.trans x1⟩
  · rw [if_neg hc] at ic ⊢
    rw [decide_eq_false hc]
    clear d1 d2
    go_enter Tryz.func55, Tryz.ntmps55
    go_wp2_with (go_at_call 77; (with_reducible refine ic.mono ?_); rintro e w1 ⟨rfl, x1⟩)
    go_ret2
    exact ⟨rfl, hE.trans x1⟩
end Go.Proofs.YtjmfcjidhmaibaaGreatDoor
