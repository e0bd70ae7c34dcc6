
/-
  The reference of catalogs: Right, Find, Column, SameTable, Same.
-/
import Derived.Test.YtjmfcjidhmaibaaGreatDoorCatS
import Derived.Test.YtjmfcjidhmaibaaGreatDoorCatN
namespace Go.Proofs.YtjmfcjidhmaibaaGreatDoor
open Go.RowKit
open Go.Lib hiding intOf
set_option linter.unusedVariables false

theorem keep6 {W w w' : World} {b0 o0 b1 o1 b2 o2 b3 o3 b4 o4 b5 o5 : Nat} {v0 v1 v2 v3 v4 v5 : Value} (h : ((w).cell? ⟨b0, o0, none⟩ = some v0 ∧ (w).cell? ⟨b1, o1, none⟩ = some v1 ∧ (w).cell? ⟨b2, o2, none⟩ = some v2 ∧ (w).cell? ⟨b3, o3, none⟩ = some v3 ∧ (w).cell? ⟨b4, o4, none⟩ = some v4 ∧ (w).cell? ⟨b5, o5, none⟩ = some v5 ∧ Ext [] W (w))) (e : Ext [] w w') : ((w').cell? ⟨b0, o0, none⟩ = some v0 ∧ (w').cell? ⟨b1, o1, none⟩ = some v1 ∧ (w').cell? ⟨b2, o2, none⟩ = some v2 ∧ (w').cell? ⟨b3, o3, none⟩ = some v3 ∧ (w').cell? ⟨b4, o4, none⟩ = some v4 ∧ (w').cell? ⟨b5, o5, none⟩ = some v5 ∧ Ext [] W (w')) := ⟨e.read h.1 (by simp), keep5 h.2 e⟩
theorem keep7 {W w w' : World} {b0 o0 b1 o1 b2 o2 b3 o3 b4 o4 b5 o5 b6 o6 : Nat} {v0 v1 v2 v3 v4 v5 v6 : Value} (h : ((w).cell? ⟨b0, o0, none⟩ = some v0 ∧ (w).cell? ⟨b1, o1, none⟩ = some v1 ∧ (w).cell? ⟨b2, o2, none⟩ = some v2 ∧ (w).cell? ⟨b3, o3, none⟩ = some v3 ∧ (w).cell? ⟨b4, o4, none⟩ = some v4 ∧ (w).cell? ⟨b5, o5, none⟩ = some v5 ∧ (w).cell? ⟨b6, o6, none⟩ = some v6 ∧ Ext [] W (w))) (e : Ext [] w w') : ((w').cell? ⟨b0, o0, none⟩ = some v0 ∧ (w').cell? ⟨b1, o1, none⟩ = some v1 ∧ (w').cell? ⟨b2, o2, none⟩ = some v2 ∧ (w').cell? ⟨b3, o3, none⟩ = some v3 ∧ (w').cell? ⟨b4, o4, none⟩ = some v4 ∧ (w').cell? ⟨b5, o5, none⟩ = some v5 ∧ (w').cell? ⟨b6, o6, none⟩ = some v6 ∧ Ext [] W (w')) := ⟨e.read h.1 (by simp), keep6 h.2 e⟩
theorem keep8 {W w w' : World} {b0 o0 b1 o1 b2 o2 b3 o3 b4 o4 b5 o5 b6 o6 b7 o7 : Nat} {v0 v1 v2 v3 v4 v5 v6 v7 : Value} (h : ((w).cell? ⟨b0, o0, none⟩ = some v0 ∧ (w).cell? ⟨b1, o1, none⟩ = some v1 ∧ (w).cell? ⟨b2, o2, none⟩ = some v2 ∧ (w).cell? ⟨b3, o3, none⟩ = some v3 ∧ (w).cell? ⟨b4, o4, none⟩ = some v4 ∧ (w).cell? ⟨b5, o5, none⟩ = some v5 ∧ (w).cell? ⟨b6, o6, none⟩ = some v6 ∧ (w).cell? ⟨b7, o7, none⟩ = some v7 ∧ Ext [] W (w))) (e : Ext [] w w') : ((w').cell? ⟨b0, o0, none⟩ = some v0 ∧ (w').cell? ⟨b1, o1, none⟩ = some v1 ∧ (w').cell? ⟨b2, o2, none⟩ = some v2 ∧ (w').cell? ⟨b3, o3, none⟩ = some v3 ∧ (w').cell? ⟨b4, o4, none⟩ = some v4 ∧ (w').cell? ⟨b5, o5, none⟩ = some v5 ∧ (w').cell? ⟨b6, o6, none⟩ = some v6 ∧ (w').cell? ⟨b7, o7, none⟩ = some v7 ∧ Ext [] W (w')) := ⟨e.read h.1 (by simp), keep7 h.2 e⟩
set_option maxRecDepth 100000 in
set_option maxHeartbeats 2000000 in
theorem rFind_any (w : World) (v : Value) (l : List Tab) (name : ByteArray) (hC : Ts w v l) (hl : l.length ≤ maxLen) :
    Calls Tryz.prog 26 #[KV v, .string name] w fun e w' => e = .returned (.int .i64 (fndI l.length (fnd (l.map Tab.n) name))) ∧ Ext [] w w' := by
  obtain ⟨a, c, rfl⟩ := hC.shape
  unfold maxLen at hl
  have hE := (Ext.refl [] w).alloc (.cells #[.slice a l.length c] 24)
  have c0 := new_cells w [.slice a l.length c] 24 0 _ rfl
  go_enter Tryz.func26, Tryz.ntmps26
  go_upto_region 1 with (fail)
  generalize w.alloc (.cells #[.slice a l.length c] 24) = W at *
  generalize w.heap.size = b at *
  go_wp2_with (fail)
  go_loopw [5] (fun i wr => ∃ k : Nat, k ≤ l.length ∧ i = .int .i64 k ∧ Ext [] W wr ∧ Hid (∀ x ∈ (l.map Tab.n).take k, x ≠ name)) (fun i _ => l.length - (intOf i).toNat)
  case atStart => exact ⟨0, by omega, rfl, Ext.refl _ _, by simp [Hid]⟩
  case round =>
    obtain ⟨k, hk, rfl, hX, hS⟩ := hrel
    have c1 := cells_ext hX c0
    by_cases hlt : k < l.length
    · have hx : l[k]? = some l[k] := List.getElem?_eq_getElem hlt
      obtain ⟨ob, o, a1, m1, a2, m2, rfl, p0, p1, p2, -, -⟩ := (hC.ext (hE.trans hX)).at k _ hx
      have hm : (l.map Tab.n)[k]? = some (l[k]).n := by rw [List.getElem?_map, hx]; rfl
      generalize (l[k]).n = N at *
      clear hx p1 p2
      have hs := toList_eq N name
      by_cases he : N = name
      · have HF : Hid (fndI l.length (fnd (l.map Tab.n) name) = k) := by
          show _ = _
          rw [fnd_here _ _ k (he ▸ hm) hS.out, fndI, if_pos hlt]
        rw [decide_eq_true he] at hs
        clear hm hS he
        go_wp2_with (fail)
        go_ret
        exact ⟨ret_int HF.out.symm, hE.trans hX⟩
      · have HS : Hid (∀ x ∈ (l.map Tab.n).take (k + 1), x ≠ name) := by
          show ∀ x ∈ _, _
          intro x hx
          rw [List.take_add_one, hm, List.mem_append] at hx
          rcases hx with hx | hx
          · exact hS.out x hx
          · obtain rfl : x = N := by simpa using hx
            exact he
        rw [decide_eq_false he] at hs
        clear hm hS he
        go_wp2_with (fail)
        go_roundw
        case rel => exact ⟨k + 1, by omega, by go_num, hX, HS⟩
        case measure => simp [intOf]; omega
    · have HF : Hid (fndI l.length (fnd (l.map Tab.n) name) = -1) := by
        obtain rfl : k = l.length := by omega
        show _ = _
        have := hS.out
        rw [List.take_of_length_le (by simp)] at this
        rw [fnd_none _ _ this, List.length_map, fndI, if_neg (by omega)]
      clear hS
      go_wp2_with (fail)
      go_ret
      exact ⟨ret_int HF.out.symm, hE.trans hX⟩
set_option maxRecDepth 100000 in
set_option maxHeartbeats 2000000 in
theorem rRight_any (w : World) (v : Value) (l : List Tab) (hC : Ts w v l) (hb : TabsOK l) (hl : l.length ≤ maxLen) :
    Calls Tryz.prog 8 #[KV v] w fun e w' => e = .returned (.bool (isCat l)) ∧ Ext [] w w' := by
  obtain ⟨a, c, rfl⟩ := hC.shape
  unfold maxLen at hl
  have hE := (Ext.refl [] w).alloc (.cells #[.slice a l.length c] 24)
  have c0 := new_cells w [.slice a l.length c] 24 0 _ rfl
  by_cases h4 : l.length ≤ 4
  · have q0 : decide ((4 : Int) < (l.length : Int)) = false := by simp; omega
    go_enter Tryz.func8, Tryz.ntmps8
    go_upto_region 1 with (fail)
    generalize w.alloc (.cells #[.slice a l.length c] 24) = W at *
    generalize w.heap.size = b at *
    go_wp2_with (fail)
    go_loopw [3] (fun i wr => ∃ k : Nat, k ≤ l.length ∧ i = .int .i64 k ∧ Ext [] W wr ∧ Hid (∀ (j : Nat) x, j < k → l[j]? = some x → fnd (l.map Tab.n) (Tab.n x) = j ∧ isTab x = true)) (fun i _ => l.length - (intOf i).toNat)
    case atStart => exact ⟨0, by omega, rfl, Ext.refl _ _, fun j x h => by omega⟩
    case round =>
      obtain ⟨k, hk, rfl, hX, hS⟩ := hrel
      have c1 := cells_ext hX c0
      have hEX := hE.trans hX
      by_cases hlt : k < l.length
      · have hx : l[k]? = some l[k] := List.getElem?_eq_getElem hlt
        obtain ⟨ob, o, a1, m1, a2, m2, rfl, p0, p1, p2, ⟨oc, q1⟩, ok, q2⟩ := (hC.ext hEX).at k _ hx
        have hbt := hb _ (List.mem_of_getElem? hx)
        generalize l[k] = t at *
        have rt := rRightTable_any wr t a1 m1 a2 m2 oc ok q1 q2 hbt.1 hbt.2
        cases hr : isTab t
        · rw [hr] at rt
          have HS : Hid (isCat l = false) := by
            show _ = _
            unfold isCat
            rw [fitsL_no (f := Tab.n) (q := isTab) hx (Or.inr hr), Bool.and_false]
          clear hx hS hr q1 q2
          go_wp2_with (go_at_call 21; (with_reducible refine rt.mono ?_); rintro e v1 ⟨rfl, y1⟩)
          go_ret
          exact ⟨ret_bool HS.out.symm, hEX.trans y1⟩
        · rw [hr] at rt
          go_wp2_with (go_at_call 21; (with_reducible refine rt.mono ?_); rintro e v1 ⟨rfl, y1⟩)
          have k1 := cells_ext y1 c1
          have r0 := cells_ext y1 p0
          clear p0 p1 p2 q1 q2 rt
          generalize hN : t.n = N at *
          go_loopw [4] (fun i vr => ∃ m : Nat, m ≤ k ∧ i = .int .i64 m ∧ Ext [] v1 vr ∧ Hid (∀ x ∈ (l.map Tab.n).take m, x ≠ N)) (fun i _ => k - (intOf i).toNat)
          case atStart => exact ⟨0, by omega, rfl, Ext.refl _ _, by simp [Hid]⟩
          case round =>
            obtain ⟨m, hm, rfl, hZ, hD⟩ := hrel
            have l0 := cells_ext hZ k1
            have l1 := cells_ext hZ r0
            by_cases hmk : m < k
            · have hy : l[m]? = some l[m] := List.getElem?_eq_getElem (by omega)
              obtain ⟨ob', o', b1, n1, b2, n2, e0, s0, -, -, -, -⟩ := (hC.ext ((hEX.trans y1).trans hZ)).at m _ hy
              simp only [Option.some.injEq, Addr.mk.injEq, and_true] at e0
              obtain ⟨rfl, rfl⟩ := e0
              have hm2 : (l.map Tab.n)[m]? = some (l[m]).n := by rw [List.getElem?_map, hy]; rfl
              generalize (l[m]).n = N' at *
              have hs := toList_eq N' N
              by_cases he : N' = N
              · have HS : Hid (isCat l = false) := by
                  show _ = _
                  unfold isCat
                  rw [fitsL_no (f := Tab.n) (q := isTab) hx (Or.inl ?_), Bool.and_false]
                  have := fnd_at_most (he ▸ hm2 : (l.map Tab.n)[m]? = some N)
                  rw [hN]
                  omega
                rw [decide_eq_true he] at hs
                clear he hm2 hy hx hS hD hr hN
                go_upto_region 11 with (fail)
                go_quiet (fail)
                go_wp2_with (fail)
                go_ret
                exact ⟨ret_bool HS.out.symm, ((hEX.trans y1).trans hZ).drewN _⟩
              · have HD : Hid (∀ x ∈ (l.map Tab.n).take (m + 1), x ≠ N) := by
                  show ∀ x ∈ _, _
                  intro x hxx
                  rw [List.take_add_one, hm2, List.mem_append] at hxx
                  rcases hxx with hxx | hxx
                  · exact hD.out x hxx
                  · obtain rfl : x = N' := by simpa using hxx
                    exact he
                rw [decide_eq_false he] at hs
                clear he hm2 hy hx hD hr hN hS
                go_upto_region 11 with (fail)
                go_quiet (fail)
                go_wp2_with (fail)
                go_roundw
                case rel => exact ⟨m + 1, by omega, by go_num, hZ.drewN _, HD⟩
                case measure => simp [intOf]; omega
            · obtain rfl : m = k := by omega
              have HS : Hid (∀ (j : Nat) x, j < m + 1 → l[j]? = some x → fnd (l.map Tab.n) (Tab.n x) = j ∧ isTab x = true) := by
                intro j x hj hjx
                by_cases e : j = m
                · subst e
                  rw [hx] at hjx
                  obtain rfl := Option.some.inj hjx
                  exact ⟨fnd_here _ _ _ (by rw [List.getElem?_map, hx]; rfl) (by rw [hN]; exact hD.out), hr⟩
                · exact hS.out j x (by omega) hjx
              clear hx hS hD hr hN
              go_wp2_with (fail)
              go_roundw
              case rel => exact ⟨m + 1, by omega, by go_num, (hX.trans y1).trans hZ, HS⟩
              case measure => simp [intOf]; omega
      · have HS : Hid (isCat l = true) := by
          show _ = _
          unfold isCat
          rw [decide_eq_true h4, fitsL_yes (f := Tab.n) (q := isTab) fun j x hx => hS.out j x (by have := (List.getElem?_eq_some_iff.1 hx).1; omega) hx]
          rfl
        clear hS
        go_wp2_with (fail)
        go_ret
        exact ⟨ret_bool HS.out.symm, hEX⟩
  · have q0 : decide ((4 : Int) < (l.length : Int)) = true := by simp; omega
    have hf : isCat l = false := by unfold isCat; rw [decide_eq_false h4]; rfl
    rw [hf]
    clear h4 hf
    go_enter Tryz.func8, Tryz.ntmps8
    go_upto_region 1 with (fail)
    generalize w.alloc (.cells #[.slice a l.length c] 24) = W at *
    generalize w.heap.size = b at *
    go_wp2_with (fail)
    go_ret
    exact ⟨rfl, hE⟩
set_option maxRecDepth 100000 in
set_option maxHeartbeats 2000000 in
theorem rColumn_any (w : World) (n : ByteArray) (a : Option Addr) (c : Nat) (a2 : Option Addr) (n2 c2 : Nat) (oc : Nat) (l : List Col) (name : ByteArray) (hC : Cs w (.slice a l.length c) oc l) (hl : l.length ≤ maxLen) :
    Calls Tryz.prog 72 #[TV n (.slice a l.length c) (.slice a2 n2 c2), .string name] w fun e w' => e = .returned (.int .i64 (fndI l.length (fnd (l.map Col.n) name))) ∧ Ext [] w w' := by
  unfold maxLen at hl
  have hE := (Ext.refl [] w).alloc (.cells #[.string n, .slice a l.length c, .slice a2 n2 c2] 41)
  have c0 := new_cells w [.string n, .slice a l.length c, .slice a2 n2 c2] 41 1 _ rfl
  go_enter Tryz.func72, Tryz.ntmps72
  go_upto_region 1 with (fail)
  generalize w.alloc (.cells #[.string n, .slice a l.length c, .slice a2 n2 c2] 41) = W at *
  generalize w.heap.size = b at *
  go_wp2_with (fail)
  go_loopw [5] (fun i wr => ∃ k : Nat, k ≤ l.length ∧ i = .int .i64 k ∧ Ext [] W wr ∧ Hid (∀ x ∈ (l.map Col.n).take k, x ≠ name)) (fun i _ => l.length - (intOf i).toNat)
  case atStart => exact ⟨0, by omega, rfl, Ext.refl _ _, by simp [Hid]⟩
  case round =>
    obtain ⟨k, hk, rfl, hX, hS⟩ := hrel
    have c1 := cells_ext hX c0
    by_cases hlt : k < l.length
    · obtain ⟨o, N, K, rfl, hx, p0, -⟩ := (hC.ext (hE.trans hX) (by simp)).at k hlt
      have hm : (l.map Col.n)[k]? = some N := by rw [List.getElem?_map, hx]; rfl
      clear hx
      have hs := toList_eq N name
      by_cases he : N = name
      · have HF : Hid (fndI l.length (fnd (l.map Col.n) name) = k) := by
          show _ = _
          rw [fnd_here _ _ k (he ▸ hm) hS.out, fndI, if_pos hlt]
        rw [decide_eq_true he] at hs
        clear hm hS he
        go_wp2_with (fail)
        go_ret
        exact ⟨ret_int HF.out.symm, hE.trans hX⟩
      · have HS : Hid (∀ x ∈ (l.map Col.n).take (k + 1), x ≠ name) := by
          show ∀ x ∈ _, _
          intro x hx
          rw [List.take_add_one, hm, List.mem_append] at hx
          rcases hx with hx | hx
          · exact hS.out x hx
          · obtain rfl : x = N := by simpa using hx
            exact he
        rw [decide_eq_false he] at hs
        clear hm hS he
        go_wp2_with (fail)
        go_roundw
        case rel => exact ⟨k + 1, by omega, by go_num, hX, HS⟩
        case measure => simp [intOf]; omega
    · have HF : Hid (fndI l.length (fnd (l.map Col.n) name) = -1) := by
        obtain rfl : k = l.length := by omega
        show _ = _
        have := hS.out
        rw [List.take_of_length_le (by simp)] at this
        rw [fnd_none _ _ this, List.length_map, fndI, if_neg (by omega)]
      clear hS
      go_wp2_with (fail)
      go_ret
      exact ⟨ret_int HF.out.symm, hE.trans hX⟩
set_option maxRecDepth 100000 in
set_option maxHeartbeats 4000000 in
theorem rSameTable_any (w : World) (t u : Tab) (a1 : Option Addr) (c1 : Nat) (a2 : Option Addr) (c2 : Nat) (oc ok : Nat) (hC : Cs w (.slice a1 t.cols.length c1) oc t.cols) (hK : Is w (.slice a2 t.keys.length c2) ok t.keys)
    (a3 : Option Addr) (c3 : Nat) (a4 : Option Addr) (c4 : Nat) (od og : Nat) (hD : Cs w (.slice a3 u.cols.length c3) od u.cols) (hJ : Is w (.slice a4 u.keys.length c4) og u.keys)
    (l1 : t.cols.length ≤ maxLen) (l2 : t.keys.length ≤ maxLen) (l3 : u.cols.length ≤ maxLen) (l4 : u.keys.length ≤ maxLen) :
    Calls Tryz.prog 28 #[TV t.n (.slice a1 t.cols.length c1) (.slice a2 t.keys.length c2), TV u.n (.slice a3 u.cols.length c3) (.slice a4 u.keys.length c4)] w fun e w' => e = .returned (.bool (decide (t = u))) ∧ Ext [] w w' := by
  rw [tab_eq]
  obtain ⟨n, cs, ks⟩ := t
  obtain ⟨n', ds, js⟩ := u
  unfold maxLen at l1 l2 l3 l4
  dsimp only at *
  have hs := toList_eq n n'
  have e1 := (Ext.refl [] w).alloc (.cells #[.string n, .slice a1 cs.length c1, .slice a2 ks.length c2] 41)
  have e2 := (Ext.refl [] (w.alloc (.cells #[.string n, .slice a1 cs.length c1, .slice a2 ks.length c2] 41))).alloc (.cells #[.string n', .slice a3 ds.length c3, .slice a4 js.length c4] 41)
  have hE := e1.trans e2
  have d0 := cells_ext e2 (new_cells w [.string n, .slice a1 cs.length c1, .slice a2 ks.length c2] 41 0 _ rfl)
  have d1 := cells_ext e2 (new_cells w [.string n, .slice a1 cs.length c1, .slice a2 ks.length c2] 41 1 _ rfl)
  have d2 := cells_ext e2 (new_cells w [.string n, .slice a1 cs.length c1, .slice a2 ks.length c2] 41 2 _ rfl)
  have f0 := new_cells (w.alloc (.cells #[.string n, .slice a1 cs.length c1, .slice a2 ks.length c2] 41)) [.string n', .slice a3 ds.length c3, .slice a4 js.length c4] 41 0 _ rfl
  have f1 := new_cells (w.alloc (.cells #[.string n, .slice a1 cs.length c1, .slice a2 ks.length c2] 41)) [.string n', .slice a3 ds.length c3, .slice a4 js.length c4] 41 1 _ rfl
  have f2 := new_cells (w.alloc (.cells #[.string n, .slice a1 cs.length c1, .slice a2 ks.length c2] 41)) [.string n', .slice a3 ds.length c3, .slice a4 js.length c4] 41 2 _ rfl
  simp only [World.size_alloc] at f0 f1 f2
  by_cases hh : n = n' ∧ cs.length = ds.length ∧ ks.length = js.length
  · obtain ⟨rfl, g1, g2⟩ := hh
    have q1 : ((cs.length : Int) != (ds.length : Int)) = false := by simp; omega
    have q2 : ((ks.length : Int) != (js.length : Int)) = false := by simp; omega
    rw [decide_eq_true rfl, Bool.true_and]
    have G1 := Lib.hid g1
    have G2 := Lib.hid g2
    clear g1 g2 hs
    go_enter Tryz.func28, Tryz.ntmps28
    go_upto_region 1 with (fail)
    generalize (w.alloc (.cells #[.string n, .slice a1 cs.length c1, .slice a2 ks.length c2] 41)).alloc (.cells #[.string n, .slice a3 ds.length c3, .slice a4 js.length c4] 41) = W at *
    generalize w.heap.size = b at *
    go_wp2_with (fail)
    go_loopw [5] (fun i wr => ∃ k : Nat, k ≤ cs.length ∧ i = .int .i64 k ∧ Ext [] W wr ∧ Hid (decide (cs.drop k = ds.drop k) = decide (cs = ds))) (fun i _ => cs.length - (intOf i).toNat)
    case atStart => exact ⟨0, by omega, rfl, Ext.refl _ _, rfl⟩
    case round =>
      obtain ⟨k, hk, rfl, hX, hS⟩ := hrel
      have v1 := cells_ext hX d1
      have v2 := cells_ext hX f1
      by_cases hlt : k < cs.length
      · obtain ⟨o, N, K, rfl, hx, c0, c1'⟩ := (hC.ext (hE.trans hX) (by simp)).at k hlt
        obtain ⟨o', N', K', rfl, hy, r0, r1⟩ := (hD.ext (hE.trans hX) (by simp)).at k (by have := G1.out; omega)
        have hlt2 : k < ds.length := by have := G1.out; omega
        have hd := dropEq hx hy
        rw [hS.out] at hd
        have ne := fun U => run_neC U N N' K K'
        cases hc : decide (N = N' ∧ K = K')
        · have HS : Hid (decide (cs = ds) = false) := by show _ = _; rw [hd]; simp only [Col.mk.injEq]; rw [hc, Bool.false_and]
          rw [hc] at ne
          clear hd hc hx hy hS
          go_upto_region 6 with (fail)
          go_quiet (fail)
          go_wp2_with (fail)
          go_ret
          exact ⟨ret_bool (by rw [HS.out]; rfl), (hE.trans hX).drewN _⟩
        · have HS : Hid (decide (cs.drop (k + 1) = ds.drop (k + 1)) = decide (cs = ds)) := by show _ = _; rw [hd]; simp only [Col.mk.injEq]; rw [hc, Bool.true_and]
          rw [hc] at ne
          clear hd hc hx hy hS
          go_upto_region 6 with (fail)
          go_quiet (fail)
          go_wp2_with (fail)
          go_roundw
          case rel => exact ⟨k + 1, by omega, by go_num, hX.drewN _, HS⟩
          case measure => simp [intOf]; omega
      · have hCC : Hid (decide (cs = ds) = true) := by show _ = _; rw [← hS.out, List.drop_eq_nil_of_le (by omega), List.drop_eq_nil_of_le (by have := G1.out; omega)]; rfl
        clear hS
        go_wp2_with (fail)
        have hX0 := hX
        have hE0 := hE.trans hX
        generalize wr = wr0 at *
        go_loopw [6] (fun i wr => ∃ k : Nat, k ≤ ks.length ∧ i = .int .i64 k ∧ Ext [] wr0 wr ∧ Hid (decide (ks.drop k = js.drop k) = decide (ks = js))) (fun i _ => ks.length - (intOf i).toNat)
        case atStart => exact ⟨0, by omega, rfl, Ext.refl _ _, rfl⟩
        case round =>
          obtain ⟨k, hk, rfl, hX, hS⟩ := hrel
          have v1 := cells_ext hX (cells_ext hX0 d2)
          have v2 := cells_ext hX (cells_ext hX0 f2)
          by_cases hlt : k < ks.length
          · obtain ⟨o, K, rfl, hx, c0⟩ := (hK.ext (hE0.trans hX) (by simp)).at k hlt
            obtain ⟨o', K', rfl, hy, r0⟩ := (hJ.ext (hE0.trans hX) (by simp)).at k (by have := G2.out; omega)
            have hlt2 : k < js.length := by have := G2.out; omega
            have hd := dropEq hx hy
            rw [hS.out] at hd
            skip
            cases hc : decide (K = K')
            · have HS : Hid (decide (ks = js) = false) := by show _ = _; rw [hd, hc, Bool.false_and]
              have ne : (K != K') = true := by rw [bne, show (K == K') = decide (K = K') by rfl, hc]; rfl
              clear hd hc hx hy hS
              go_upto_region 11 with (fail)
              go_quiet (fail)
              go_wp2_with (fail)
              go_ret
              exact ⟨ret_bool (by rw [HS.out]; simp), (hE0.trans hX).drewN _⟩
            · have HS : Hid (decide (ks.drop (k + 1) = js.drop (k + 1)) = decide (ks = js)) := by show _ = _; rw [hd, hc, Bool.true_and]
              have ne : (K != K') = false := by rw [bne, show (K == K') = decide (K = K') by rfl, hc]; rfl
              clear hd hc hx hy hS
              go_upto_region 11 with (fail)
              go_quiet (fail)
              go_wp2_with (fail)
              go_roundw
              case rel => exact ⟨k + 1, by omega, by go_num, hX.drewN _, HS⟩
              case measure => simp [intOf]; omega
          · have HKK : Hid (decide (ks = js) = true) := by show _ = _; rw [← hS.out, List.drop_eq_nil_of_le (by omega), List.drop_eq_nil_of_le (by have := G2.out; omega)]; rfl
            clear hS
            go_wp2_with (fail)
            go_ret
            exact ⟨ret_bool (by rw [hCC.out, HKK.out]; rfl), hE0.trans hX⟩
  · have hf : (decide (n = n') && decide (cs = ds) && decide (ks = js)) = false := by
      by_cases h1 : n = n'
      · by_cases h2 : cs = ds
        · have : ¬ ks = js := fun h3 => hh ⟨h1, by rw [h2], by rw [h3]⟩
          simp [this]
        · simp [h2]
      · simp [h1]
    rw [hf]
    clear hf
    by_cases h1 : n = n'
    · rw [decide_eq_true h1] at hs
      by_cases h2 : cs.length = ds.length
      · have q1 : ((cs.length : Int) != (ds.length : Int)) = false := by simp; omega
        have q2 : ((ks.length : Int) != (js.length : Int)) = true := by simp; exact fun h3 => hh ⟨h1, h2, by omega⟩
        clear hh h1 h2
        go_enter Tryz.func28, Tryz.ntmps28
        go_upto_region 1 with (fail)
        generalize (w.alloc (.cells #[.string n, .slice a1 cs.length c1, .slice a2 ks.length c2] 41)).alloc (.cells #[.string n', .slice a3 ds.length c3, .slice a4 js.length c4] 41) = W at *
        generalize w.heap.size = b at *
        go_wp2_with (fail)
        go_ret
        exact ⟨rfl, hE⟩
      · have q1 : ((cs.length : Int) != (ds.length : Int)) = true := by simp; omega
        clear hh h1 h2
        go_enter Tryz.func28, Tryz.ntmps28
        go_upto_region 1 with (fail)
        generalize (w.alloc (.cells #[.string n, .slice a1 cs.length c1, .slice a2 ks.length c2] 41)).alloc (.cells #[.string n', .slice a3 ds.length c3, .slice a4 js.length c4] 41) = W at *
        generalize w.heap.size = b at *
        go_wp2_with (fail)
        go_ret
        exact ⟨rfl, hE⟩
    · rw [decide_eq_false h1] at hs
      clear hh h1
      go_enter Tryz.func28, Tryz.ntmps28
      go_upto_region 1 with (fail)
      generalize (w.alloc (.cells #[.string n, .slice a1 cs.length c1, .slice a2 ks.length c2] 41)).alloc (.cells #[.string n', .slice a3 ds.length c3, .slice a4 js.length c4] 41) = W at *
      generalize w.heap.size = b at *
      go_wp2_with (fail)
      go_ret
      exact ⟨rfl, hE⟩
set_option maxRecDepth 100000 in
set_option maxHeartbeats 2000000 in
theorem rSame_any (w : World) (va vb : Value) (l m : List Tab) (ha : Ts w va l) (hb : Ts w vb m) (hl : l.length ≤ maxLen) (hm : m.length ≤ maxLen) (tl : TabsOK l) (tm : TabsOK m) :
    Calls Tryz.prog 12 #[KV va, KV vb] w fun e w' => e = .returned (.bool (decide (l = m))) ∧ Ext [] w w' := by
  obtain ⟨a, ca, rfl⟩ := ha.shape
  obtain ⟨b, cb, rfl⟩ := hb.shape
  have e1 := (Ext.refl [] w).alloc (.cells #[.slice a l.length ca] 24)
  have e2 := (Ext.refl [] (w.alloc (.cells #[.slice a l.length ca] 24))).alloc (.cells #[.slice b m.length cb] 24)
  have hE := e1.trans e2
  have c0 := cells_ext e2 (new_cells w [.slice a l.length ca] 24 0 _ rfl)
  have c1 := new_cells (w.alloc (.cells #[.slice a l.length ca] 24)) [.slice b m.length cb] 24 0 _ rfl
  rw [World.size_alloc] at c1
  go_enter Tryz.func12, Tryz.ntmps12
  go_upto_region 1 with (fail)
  generalize (w.alloc (.cells #[.slice a l.length ca] 24)).alloc (.cells #[.slice b m.length cb] 24) = W at *
  generalize w.heap.size = bb at *
  have hll := hl
  have hmm := hm
  unfold maxLen at hll hmm
  by_cases hlm : l.length = m.length
  · have HL := Lib.hid hlm
    have hne : ((l.length : Int) != (m.length : Int)) = false := by simp; omega
    clear hlm
    go_wp2_with (fail)
    go_loopw [5] (fun i wr => ∃ k : Nat, k ≤ l.length ∧ i = .int .i64 k ∧ Ext [] W wr ∧ Hid (decide (l.drop k = m.drop k) = decide (l = m))) (fun i _ => l.length - (intOf i).toNat)
    case atStart => exact ⟨0, by omega, rfl, Ext.refl _ _, rfl⟩
    case round =>
      obtain ⟨k, hk, rfl, hX, hS⟩ := hrel
      have c0' := cells_ext hX c0
      have c1' := cells_ext hX c1
      by_cases hlt : k < l.length
      · have hlt2 : k < m.length := by have := HL.out; omega
        have hx : l[k]? = some l[k] := List.getElem?_eq_getElem hlt
        have hy : m[k]? = some m[k] := List.getElem?_eq_getElem hlt2
        obtain ⟨ob, o, a1, n1, a2, n2, rfl, p0, p1, p2, ⟨oc, q1⟩, ok, q2⟩ := (ha.ext (hE.trans hX)).at k _ hx
        obtain ⟨ob', o', a3, n3, a4, n4, rfl, r0, r1, r2, ⟨od, s1⟩, og, s2⟩ := (hb.ext (hE.trans hX)).at k _ hy
        have t1 := tl _ (List.mem_of_getElem? hx)
        have t2 := tm _ (List.mem_of_getElem? hy)
        have hd := dropEq hx hy
        rw [hS.out] at hd
        generalize l[k] = t at *
        generalize m[k] = u at *
        have so := fun U (x : Ext [] wr U) => rSameTable_any U t u a1 n1 a2 n2 oc ok (q1.ext x (by simp)) (q2.ext x (by simp)) a3 n3 a4 n4 od og (s1.ext x (by simp)) (s2.ext x (by simp)) t1.1 t1.2 t2.1 t2.2
        cases hc : decide (t = u)
        · have HS : Hid (decide (l = m) = false) := by show _ = _; rw [hd, hc, Bool.false_and]
          rw [hc] at so
          clear hd hc hx hy hS q1 q2 s1 s2
          go_upto_region 6 with (fail)
          go_region_held3 (fun w' => w'.cell? ⟨bb, 0, none⟩ = some (.slice (some ⟨ob, o, none⟩) l.length ca) ∧ w'.cell? ⟨bb + 1, 0, none⟩ = some (.slice (some ⟨ob', o', none⟩) m.length cb) ∧ w'.cell? ⟨ob, o + k * 3, none⟩ = some (.string t.n) ∧ w'.cell? ⟨ob, o + k * 3 + 1, none⟩ = some (.slice a1 t.cols.length n1) ∧ w'.cell? ⟨ob, o + k * 3 + 2, none⟩ = some (.slice a2 t.keys.length n2) ∧ w'.cell? ⟨ob', o' + k * 3, none⟩ = some (.string u.n) ∧ w'.cell? ⟨ob', o' + k * 3 + 1, none⟩ = some (.slice a3 u.cols.length n3) ∧ w'.cell? ⟨ob', o' + k * 3 + 2, none⟩ = some (.slice a4 u.keys.length n4) ∧ Ext [] wr w')
            (first | exact ⟨c0', c1', p0, p1, p2, r0, r1, r2, (Ext.refl [] wr).drew⟩ | assumption)
            (first | (go_at_call 28; (with_reducible refine (so _ (Ext.refl [] wr).drew).mono ?_); rintro e u1 ⟨rfl, x1⟩; have s1 := keep8 (by assumption) x1; have x1 := (Ext.refl [] wr).drew.trans x1))
          go_wp2_with (fail)
          go_ret
          exact ⟨ret_bool HS.out.symm, (hE.trans hX).trans x1⟩
        · have HS : Hid (decide (l.drop (k + 1) = m.drop (k + 1)) = decide (l = m)) := by show _ = _; rw [hd, hc, Bool.true_and]
          rw [hc] at so
          clear hd hc hx hy hS q1 q2 s1 s2
          go_upto_region 6 with (fail)
          go_region_held3 (fun w' => w'.cell? ⟨bb, 0, none⟩ = some (.slice (some ⟨ob, o, none⟩) l.length ca) ∧ w'.cell? ⟨bb + 1, 0, none⟩ = some (.slice (some ⟨ob', o', none⟩) m.length cb) ∧ w'.cell? ⟨ob, o + k * 3, none⟩ = some (.string t.n) ∧ w'.cell? ⟨ob, o + k * 3 + 1, none⟩ = some (.slice a1 t.cols.length n1) ∧ w'.cell? ⟨ob, o + k * 3 + 2, none⟩ = some (.slice a2 t.keys.length n2) ∧ w'.cell? ⟨ob', o' + k * 3, none⟩ = some (.string u.n) ∧ w'.cell? ⟨ob', o' + k * 3 + 1, none⟩ = some (.slice a3 u.cols.length n3) ∧ w'.cell? ⟨ob', o' + k * 3 + 2, none⟩ = some (.slice a4 u.keys.length n4) ∧ Ext [] wr w')
            (first | exact ⟨c0', c1', p0, p1, p2, r0, r1, r2, (Ext.refl [] wr).drew⟩ | assumption)
            (first | (go_at_call 28; (with_reducible refine (so _ (Ext.refl [] wr).drew).mono ?_); rintro e u1 ⟨rfl, x1⟩; have s1 := keep8 (by assumption) x1; have x1 := (Ext.refl [] wr).drew.trans x1))
          go_wp2_with (fail)
          go_roundw
          case rel => exact ⟨k + 1, by omega, by go_num, hX.trans x1, HS⟩
          case measure => simp [intOf]; omega
      · have HS : Hid (decide (l = m) = true) := by show _ = _; rw [← hS.out, List.drop_eq_nil_of_le (by omega), List.drop_eq_nil_of_le (by have := HL.out; omega)]; rfl
        clear hS
        go_wp2_with (fail)
        go_ret
        exact ⟨ret_bool HS.out.symm, hE.trans hX⟩
  · have HS := Lib.hid (show decide (l = m) = false by simp; intro h; exact hlm (by rw [h]))
    have hne : ((l.length : Int) != (m.length : Int)) = true := by simp; omega
    clear hlm
    go_wp2_with (fail)
    go_ret
    exact ⟨ret_bool HS.out.symm, hE⟩
end Go.Proofs.YtjmfcjidhmaibaaGreatDoor
