
/-
  The same: slices.Equal, sameTable, Same.
-/
import Derived.Test.YtibmjfihfljiiaaDoorCatL
namespace Go.Proofs.YtibmjfihfljiiaaDoor
open Go.RowKit
open Go.Lib hiding intOf
set_option linter.unusedVariables false

theorem run_neC (w : World) (n n' : ByteArray) (k k' : Int) : (binOp .neq 59 (CV n k) (CV n' k')).run Tryd.prog w = .ok (.bool (!decide (n = n' ∧ k = k'))) w := by
  have hs := toList_eq n n'
  by_cases e1 : n = n'
  · by_cases e2 : k = k'
    · simp [go_sem, e1, e2]
    · simp [go_sem, e1, e2]
  · rw [decide_eq_false e1] at hs
    by_cases e2 : k = k'
    · simp [go_sem, e1, e2, hs]
    · simp [go_sem, e1, e2, hs]
theorem dropEq {α : Type} [DecidableEq α] {l m : List α} {k : Nat} {x y : α} (hx : l[k]? = some x) (hy : m[k]? = some y) : decide (l.drop k = m.drop k) = (decide (x = y) && decide (l.drop (k + 1) = m.drop (k + 1))) := by
  obtain ⟨h1, rfl⟩ := List.getElem?_eq_some_iff.1 hx
  obtain ⟨h2, rfl⟩ := List.getElem?_eq_some_iff.1 hy
  rw [List.drop_eq_getElem_cons h1, List.drop_eq_getElem_cons h2]
  simp only [List.cons.injEq]
  by_cases h : l[k] = m[k] <;> simp [h]
set_option maxHeartbeats 2000000 in
theorem equal_col (w : World) (va vb : Value) (oa ob : Nat) (l m : List Col) (ha : Cs w va oa l) (hb : Cs w vb ob m) (hl : l.length ≤ maxLen) (hm : m.length ≤ maxLen) :
    Calls Tryd.prog 60 #[va, vb] w fun e w' => e = .returned (.bool (decide (l = m))) ∧ Ext [] w w' := by
  obtain ⟨a, ca, rfl⟩ := ha.shape
  obtain ⟨b, cb, rfl⟩ := hb.shape
  unfold maxLen at hl hm
  by_cases hlm : l.length = m.length
  · have HL := Lib.hid hlm
    have hne : ((l.length : Int) != (m.length : Int)) = false := by simp; omega
    clear hlm
    go_enter Tryd.func60, Tryd.ntmps60
    go_wp2
    go_loopw [13] (fun i wr => ∃ k : Nat, k ≤ l.length ∧ i = .int .i64 k ∧ Ext [] w wr ∧ Hid (decide (l.drop k = m.drop k) = decide (l = m))) (fun i _ => l.length - (intOf i).toNat)
    case atStart => exact ⟨0, by omega, rfl, Ext.refl _ _, rfl⟩
    case round =>
      obtain ⟨k, hk, rfl, hX, hS⟩ := hrel
      by_cases hlt : k < l.length
      · obtain ⟨o, N, K, rfl, hx, c0, c1⟩ := (ha.ext hX (by simp)).at k hlt
        obtain ⟨o', N', K', rfl, hy, d0, d1⟩ := (hb.ext hX (by simp)).at k (by have := HL.out; omega)
        have hlt2 : k < m.length := by have := HL.out; omega
        have hd := dropEq hx hy
        have ne := fun U => run_neC U N N' K K'
        have hcc : decide ((⟨N, K⟩ : Col) = ⟨N', K'⟩) = decide (N = N' ∧ K = K') := by simp
        rw [hcc, hS.out] at hd
        cases hc : decide (N = N' ∧ K = K')
        · have HS : Hid (decide (l = m) = false) := by show _ = _; rw [hd, hc, Bool.false_and]
          rw [hc] at ne
          clear hd hcc hc hx hy hS
          go_upto_region 6 with (fail)
          go_quiet (fail)
          go_wp2
          go_ret
          exact ⟨ret_bool HS.out.symm, hX.drewN _⟩
        · have HS : Hid (decide (l.drop (k + 1) = m.drop (k + 1)) = decide (l = m)) := by show _ = _; rw [hd, hc, Bool.true_and]
          rw [hc] at ne
          clear hd hcc hc hx hy hS
          go_upto_region 6 with (fail)
          go_quiet (fail)
          go_wp2
          go_roundw
          case rel => exact ⟨k + 1, by omega, by go_num, hX.drewN _, HS⟩
          case measure => simp [intOf]; omega
      · have HS : Hid (decide (l = m) = true) := by show _ = _; rw [← hS.out, List.drop_eq_nil_of_le (by omega), List.drop_eq_nil_of_le (by have := HL.out; omega)]; rfl
        clear hS
        go_wp2
        go_ret
        exact ⟨ret_bool HS.out.symm, hX⟩
  · have HS := Lib.hid (show decide (l = m) = false by simp; intro h; exact hlm (by rw [h]))
    have hne : ((l.length : Int) != (m.length : Int)) = true := by simp; omega
    clear hlm
    go_enter Tryd.func60, Tryd.ntmps60
    go_wp2
    go_ret
    exact ⟨ret_bool HS.out.symm, Ext.refl _ _⟩
set_option maxHeartbeats 2000000 in
theorem equal_int (w : World) (va vb : Value) (oa ob : Nat) (l m : List Int) (ha : Is w va oa l) (hb : Is w vb ob m) (hl : l.length ≤ maxLen) (hm : m.length ≤ maxLen) :
    Calls Tryd.prog 61 #[va, vb] w fun e w' => e = .returned (.bool (decide (l = m))) ∧ Ext [] w w' := by
  obtain ⟨a, ca, rfl⟩ := ha.shape
  obtain ⟨b, cb, rfl⟩ := hb.shape
  unfold maxLen at hl hm
  by_cases hlm : l.length = m.length
  · have HL := Lib.hid hlm
    have hne : ((l.length : Int) != (m.length : Int)) = false := by simp; omega
    clear hlm
    go_enter Tryd.func61, Tryd.ntmps61
    go_wp2
    go_loopw [13] (fun i wr => ∃ k : Nat, k ≤ l.length ∧ i = .int .i64 k ∧ Ext [] w wr ∧ Hid (decide (l.drop k = m.drop k) = decide (l = m))) (fun i _ => l.length - (intOf i).toNat)
    case atStart => exact ⟨0, by omega, rfl, Ext.refl _ _, rfl⟩
    case round =>
      obtain ⟨k, hk, rfl, hX, hS⟩ := hrel
      by_cases hlt : k < l.length
      · obtain ⟨o, K, rfl, hx, c0⟩ := (ha.ext hX (by simp)).at k hlt
        obtain ⟨o', K', rfl, hy, d0⟩ := (hb.ext hX (by simp)).at k (by have := HL.out; omega)
        have hlt2 : k < m.length := by have := HL.out; omega
        have hd := dropEq hx hy
        rw [hS.out] at hd
        cases hc : decide (K = K')
        · have HS : Hid (decide (l = m) = false) := by show _ = _; rw [hd, hc, Bool.false_and]
          have ne : (K != K') = true := by rw [bne, show (K == K') = decide (K = K') by rfl, hc]; rfl
          clear hd hc hx hy hS
          go_upto_region 6 with (fail)
          go_quiet (fail)
          go_wp2
          go_ret
          exact ⟨ret_bool HS.out.symm, hX.drewN _⟩
        · have HS : Hid (decide (l.drop (k + 1) = m.drop (k + 1)) = decide (l = m)) := by show _ = _; rw [hd, hc, Bool.true_and]
          have ne : (K != K') = false := by rw [bne, show (K == K') = decide (K = K') by rfl, hc]; rfl
          clear hd hc hx hy hS
          go_upto_region 6 with (fail)
          go_quiet (fail)
          go_wp2
          go_roundw
          case rel => exact ⟨k + 1, by omega, by go_num, hX.drewN _, HS⟩
          case measure => simp [intOf]; omega
      · have HS : Hid (decide (l = m) = true) := by show _ = _; rw [← hS.out, List.drop_eq_nil_of_le (by omega), List.drop_eq_nil_of_le (by have := HL.out; omega)]; rfl
        clear hS
        go_wp2
        go_ret
        exact ⟨ret_bool HS.out.symm, hX⟩
  · have HS := Lib.hid (show decide (l = m) = false by simp; intro h; exact hlm (by rw [h]))
    have hne : ((l.length : Int) != (m.length : Int)) = true := by simp; omega
    clear hlm
    go_enter Tryd.func61, Tryd.ntmps61
    go_wp2
    go_ret
    exact ⟨ret_bool HS.out.symm, Ext.refl _ _⟩
theorem tab_eq (t u : Tab) : decide (t = u) = (decide (t.n = u.n) && decide (t.cols = u.cols) && decide (t.keys = u.keys)) := by
  cases t; cases u
  rw [Bool.eq_iff_iff]
  simp [and_assoc]
set_option maxRecDepth 100000 in
set_option maxHeartbeats 2000000 in
theorem sameTable_any (w : World) (t u : Tab) (a1 : Option Addr) (c1 : Nat) (a2 : Option Addr) (c2 : Nat) (oc ok : Nat) (hC : Cs w (.slice a1 t.cols.length c1) oc t.cols) (hK : Is w (.slice a2 t.keys.length c2) ok t.keys)
    (a3 : Option Addr) (c3 : Nat) (a4 : Option Addr) (c4 : Nat) (od og : Nat) (hD : Cs w (.slice a3 u.cols.length c3) od u.cols) (hJ : Is w (.slice a4 u.keys.length c4) og u.keys)
    (l1 : t.cols.length ≤ maxLen) (l2 : t.keys.length ≤ maxLen) (l3 : u.cols.length ≤ maxLen) (l4 : u.keys.length ≤ maxLen) :
    Calls Tryd.prog 37 #[TV t.n (.slice a1 t.cols.length c1) (.slice a2 t.keys.length c2), TV u.n (.slice a3 u.cols.length c3) (.slice a4 u.keys.length c4)] w fun e w' => e = .returned (.bool (decide (t = u))) ∧ Ext [] w w' := by
  rw [tab_eq]
  obtain ⟨n, cs, ks⟩ := t
  obtain ⟨n', ds, js⟩ := u
  dsimp only at *
  have hs := toList_eq n n'
  have e1 := (Ext.refl [] w).alloc (.cells #[.string n, .slice a1 cs.length c1, .slice a2 ks.length c2] 28)
  have e2 := (Ext.refl [] (w.alloc (.cells #[.string n, .slice a1 cs.length c1, .slice a2 ks.length c2] 28))).alloc (.cells #[.string n', .slice a3 ds.length c3, .slice a4 js.length c4] 28)
  have hE := e1.trans e2
  have d0 := cells_ext e2 (new_cells w [.string n, .slice a1 cs.length c1, .slice a2 ks.length c2] 28 0 _ rfl)
  have d1 := cells_ext e2 (new_cells w [.string n, .slice a1 cs.length c1, .slice a2 ks.length c2] 28 1 _ rfl)
  have d2 := cells_ext e2 (new_cells w [.string n, .slice a1 cs.length c1, .slice a2 ks.length c2] 28 2 _ rfl)
  have f0 := new_cells (w.alloc (.cells #[.string n, .slice a1 cs.length c1, .slice a2 ks.length c2] 28)) [.string n', .slice a3 ds.length c3, .slice a4 js.length c4] 28 0 _ rfl
  have f1 := new_cells (w.alloc (.cells #[.string n, .slice a1 cs.length c1, .slice a2 ks.length c2] 28)) [.string n', .slice a3 ds.length c3, .slice a4 js.length c4] 28 1 _ rfl
  have f2 := new_cells (w.alloc (.cells #[.string n, .slice a1 cs.length c1, .slice a2 ks.length c2] 28)) [.string n', .slice a3 ds.length c3, .slice a4 js.length c4] 28 2 _ rfl
  simp only [World.size_alloc] at f0 f1 f2
  have ec := fun U (x : Ext [] w U) => equal_col U _ _ oc od cs ds (hC.ext x (by simp)) (hD.ext x (by simp)) l1 l3
  have ek := fun U (x : Ext [] w U) => equal_int U _ _ ok og ks js (hK.ext x (by simp)) (hJ.ext x (by simp)) l2 l4
  clear hC hK hD hJ l1 l2 l3 l4
  generalize decide (ks = js) = bk at *
  generalize decide (cs = ds) = bc at *
  generalize decide (n = n') = bn at *
  cases bn
  · go_enter Tryd.func37, Tryd.ntmps37
    go_upto_region 1 with (fail)
    generalize (w.alloc (.cells #[.string n, .slice a1 cs.length c1, .slice a2 ks.length c2] 28)).alloc (.cells #[.string n', .slice a3 ds.length c3, .slice a4 js.length c4] 28) = W at *
    generalize w.heap.size = b at *
    go_wp2_with (first
      | (go_at_call 60; (with_reducible refine (ec _ hE).mono ?_); rintro e u1 ⟨rfl, x1⟩; have q2 := cells_ext x1 d2; have p2 := cells_ext x1 f2)
      | (go_at_call 61; (with_reducible refine (ek _ (hE.trans x1)).mono ?_); rintro e u2 ⟨rfl, x2⟩))
    go_ret
    exact ⟨rfl, hE⟩
  · cases bc
    · go_enter Tryd.func37, Tryd.ntmps37
      go_upto_region 1 with (fail)
      generalize (w.alloc (.cells #[.string n, .slice a1 cs.length c1, .slice a2 ks.length c2] 28)).alloc (.cells #[.string n', .slice a3 ds.length c3, .slice a4 js.length c4] 28) = W at *
      generalize w.heap.size = b at *
      go_wp2_with (first
        | (go_at_call 60; (with_reducible refine (ec _ hE).mono ?_); rintro e u1 ⟨rfl, x1⟩; have q2 := cells_ext x1 d2; have p2 := cells_ext x1 f2)
        | (go_at_call 61; (with_reducible refine (ek _ (hE.trans x1)).mono ?_); rintro e u2 ⟨rfl, x2⟩))
      go_ret
      exact ⟨rfl, hE.trans x1⟩
    · go_enter Tryd.func37, Tryd.ntmps37
      go_upto_region 1 with (fail)
      generalize (w.alloc (.cells #[.string n, .slice a1 cs.length c1, .slice a2 ks.length c2] 28)).alloc (.cells #[.string n', .slice a3 ds.length c3, .slice a4 js.length c4] 28) = W at *
      generalize w.heap.size = b at *
      go_wp2_with (first
        | (go_at_call 60; (with_reducible refine (ec _ hE).mono ?_); rintro e u1 ⟨rfl, x1⟩; have q2 := cells_ext x1 d2; have p2 := cells_ext x1 f2)
        | (go_at_call 61; (with_reducible refine (ek _ (hE.trans x1)).mono ?_); rintro e u2 ⟨rfl, x2⟩))
      go_ret
      exact ⟨rfl, (hE.trans x1).trans x2⟩
set_option maxRecDepth 100000 in
set_option maxHeartbeats 2000000 in
theorem equal_tab (w : World) (va vb : Value) (l m : List Tab) (ha : Ts w va l) (hb : Ts w vb m) (hl : l.length ≤ maxLen) (hm : m.length ≤ maxLen) (tl : TabsOK l) (tm : TabsOK m) :
    Calls Tryd.prog 36 #[va, vb, .func (.func 37) #[] #[]] w fun e w' => e = .returned (.bool (decide (l = m))) ∧ Ext [] w w' := by
  obtain ⟨a, ca, rfl⟩ := ha.shape
  obtain ⟨b, cb, rfl⟩ := hb.shape
  unfold maxLen at hl hm
  by_cases hlm : l.length = m.length
  · have HL := Lib.hid hlm
    have hne : ((l.length : Int) != (m.length : Int)) = false := by simp; omega
    clear hlm
    go_enter Tryd.func36, Tryd.ntmps36
    go_wp2_with (fail)
    go_loopw [17] (fun i wr => ∃ k : Nat, k ≤ l.length ∧ i = .int .i64 k ∧ Ext [] w wr ∧ Hid (decide (l.drop k = m.drop k) = decide (l = m))) (fun i _ => l.length - (intOf i).toNat)
    case atStart => exact ⟨0, by omega, rfl, Ext.refl _ _, rfl⟩
    case round =>
      obtain ⟨k, hk, rfl, hX, hS⟩ := hrel
      by_cases hlt : k < l.length
      · have hlt2 : k < m.length := by have := HL.out; omega
        have hx : l[k]? = some l[k] := List.getElem?_eq_getElem hlt
        have hy : m[k]? = some m[k] := List.getElem?_eq_getElem hlt2
        obtain ⟨ob, o, a1, c1, a2, c2, rfl, p0, p1, p2, ⟨oc, q1⟩, ok, q2⟩ := (ha.ext hX).at k _ hx
        obtain ⟨ob', o', a3, c3, a4, c4, rfl, r0, r1, r2, ⟨od, s1⟩, og, s2⟩ := (hb.ext hX).at k _ hy
        have t1 := tl _ (List.mem_of_getElem? hx)
        have t2 := tm _ (List.mem_of_getElem? hy)
        have hd := dropEq hx hy
        rw [hS.out] at hd
        generalize l[k] = t at *
        generalize m[k] = u at *
        have e1 := (Ext.refl [] wr).alloc (.cells #[.string t.n, .slice a1 t.cols.length c1, .slice a2 t.keys.length c2] 28)
        have e2 := (Ext.refl [] (wr.alloc (.cells #[.string t.n, .slice a1 t.cols.length c1, .slice a2 t.keys.length c2] 28))).alloc (.cells #[.string u.n, .slice a3 u.cols.length c3, .slice a4 u.keys.length c4] 28)
        have so := fun U (x : Ext [] wr U) => sameTable_any U t u a1 c1 a2 c2 oc ok (q1.ext x (by simp)) (q2.ext x (by simp)) a3 c3 a4 c4 od og (s1.ext x (by simp)) (s2.ext x (by simp)) t1.1 t1.2 t2.1 t2.2
        have r0' := cells_ext e1 r0
        have r1' := cells_ext e1 r1
        have r2' := cells_ext e1 r2
        have hE := hX.trans (e1.trans e2)
        cases hc : decide (t = u)
        · have HS : Hid (decide (l = m) = false) := by show _ = _; rw [hd, hc, Bool.false_and]
          rw [hc] at so
          clear hd hc hx hy hS q1 q2 s1 s2
          go_wp2_with (go_at_call 37; (with_reducible refine (so _ (e1.trans e2)).mono ?_); rintro e u1 ⟨rfl, x1⟩)
          go_ret
          exact ⟨ret_bool HS.out.symm, hE.trans x1⟩
        · have HS : Hid (decide (l.drop (k + 1) = m.drop (k + 1)) = decide (l = m)) := by show _ = _; rw [hd, hc, Bool.true_and]
          rw [hc] at so
          clear hd hc hx hy hS q1 q2 s1 s2
          go_wp2_with (go_at_call 37; (with_reducible refine (so _ (e1.trans e2)).mono ?_); rintro e u1 ⟨rfl, x1⟩)
          go_roundw
          case rel => exact ⟨k + 1, by omega, by go_num, hE.trans x1, HS⟩
          case measure => simp [intOf]; omega
      · have HS : Hid (decide (l = m) = true) := by show _ = _; rw [← hS.out, List.drop_eq_nil_of_le (by omega), List.drop_eq_nil_of_le (by have := HL.out; omega)]; rfl
        clear hS
        go_wp2
        go_ret
        exact ⟨ret_bool HS.out.symm, hX⟩
  · have HS := Lib.hid (show decide (l = m) = false by simp; intro h; exact hlm (by rw [h]))
    have hne : ((l.length : Int) != (m.length : Int)) = true := by simp; omega
    clear hlm
    go_enter Tryd.func36, Tryd.ntmps36
    go_wp2_with (fail)
    go_ret
    exact ⟨ret_bool HS.out.symm, Ext.refl _ _⟩
theorem Same_any (w : World) (va vb : Value) (l m : List Tab) (ha : Ts w va l) (hb : Ts w vb m) (hl : l.length ≤ maxLen) (hm : m.length ≤ maxLen) (tl : TabsOK l) (tm : TabsOK m) :
    Calls Tryd.prog 21 #[KV va, KV vb] w fun e w' => e = .returned (.bool (decide (l = m))) ∧ Ext [] w w' := by
  obtain ⟨a, ca, rfl⟩ := ha.shape
  obtain ⟨b, cb, rfl⟩ := hb.shape
  have e1 := (Ext.refl [] w).alloc (.cells #[.slice a l.length ca] 24)
  have e2 := (Ext.refl [] (w.alloc (.cells #[.slice a l.length ca] 24))).alloc (.cells #[.slice b m.length cb] 24)
  have hE := e1.trans e2
  have he := equal_tab _ _ _ l m (ha.ext hE) (hb.ext hE) hl hm tl tm
  go_enter Tryd.func21, Tryd.ntmps21
  go_wp2_with (go_at_call 36; (with_reducible refine he.mono ?_); rintro e w1 ⟨rfl, x1⟩)
  go_ret
  exact ⟨rfl, hE.trans x1⟩
end Go.Proofs.YtibmjfihfljiiaaDoor
