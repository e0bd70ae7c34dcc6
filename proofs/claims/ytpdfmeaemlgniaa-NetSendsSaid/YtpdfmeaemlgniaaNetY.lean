
/-
  The document's answers: with, Send, find, Twin.
-/
import Derived.Test.YtpdfmeaemlgniaaNetU
import Derived.Test.YtpdfmeaemlgniaaNetK
import Derived.Test.YtpdfmeaemlgniaaHeld
namespace Go.Proofs.Ytpdfmeaemlgniaa
open Go.RowKit
open Go.Lib hiding intOf
set_option linter.unusedVariables false
set_option linter.unusedSimpArgs false
theorem keepW {u u' : World} {b0 o0 b1 o1 : Nat} {v0 v1 : Value} {X : List Nat} (h : u.cell? ⟨b0, o0, none⟩ = some v0 ∧ u.cell? ⟨b1, o1, none⟩ = some v1) (e : Ext X u u') (h0 : b0 ∉ X) (h1 : b1 ∉ X) : u'.cell? ⟨b0, o0, none⟩ = some v0 ∧ u'.cell? ⟨b1, o1, none⟩ = some v1 := ⟨e.read h.1 h0, e.read h.2 h1⟩
set_option maxRecDepth 100000 in
set_option maxHeartbeats 4000000 in
theorem with_any (w : World) (s : Nat) (v : Value) (l : List Par) (p : Par) (ab : Option Addr) (cb ob : Nat) (hP : Ps w v l) (hB : Bs w (.slice ab p.bs.length cb) ob p.bs) (hbl : p.bs.length ≤ 100000) (hll : l.length ≤ 20000) (hlb : ∀ q ∈ l, q.bs.length ≤ 100000) (hs : s ≤ 1099511627776) :
    Calls Try.prog 54 #[NV s v, PV p.num p.fr p.to (.slice ab p.bs.length cb) p.sp] w (Ans3 w (addM ⟨s, l⟩ p)) := by
  obtain ⟨a, c, rfl⟩ := hP.shape
  have e1 := (Ext.refl [] w).alloc (.cells #[.int .u64 (s : Int), .slice a l.length c] 25)
  have e2 := (Ext.refl [] (w.alloc (.cells #[.int .u64 (s : Int), .slice a l.length c] 25))).alloc (.cells #[.int .u64 (p.num : Int), .int .i64 p.fr, .int .i64 p.to, .slice ab p.bs.length cb, .bool p.sp] 33)
  have e3 := (Ext.refl [] ((w.alloc (.cells #[.int .u64 (s : Int), .slice a l.length c] 25)).alloc (.cells #[.int .u64 (p.num : Int), .int .i64 p.fr, .int .i64 p.to, .slice ab p.bs.length cb, .bool p.sp] 33))).alloc (.cells #[.int .u64 0, .slice none 0 0] 25)
  have b2 := (Blk.new w [.int .u64 (s : Int), .slice a l.length c] 25).ext (e2.trans e3) (by simp)
  have b3 := (Blk.new (w.alloc (.cells #[.int .u64 (s : Int), .slice a l.length c] 25)) [.int .u64 (p.num : Int), .int .i64 p.fr, .int .i64 p.to, .slice ab p.bs.length cb, .bool p.sp] 33).ext e3 (by simp)
  have b4 := Blk.new ((w.alloc (.cells #[.int .u64 (s : Int), .slice a l.length c] 25)).alloc (.cells #[.int .u64 (p.num : Int), .int .i64 p.fr, .int .i64 p.to, .slice ab p.bs.length cb, .bool p.sp] 33)) [.int .u64 0, .slice none 0 0] 25
  have hE := (e1.trans e2).trans e3
  simp only [World.size_alloc] at b3 b4
  have hP := hP.ext hE
  have hB := hB.ext hE (by simp)
  have hsz : (((w.alloc (.cells #[.int .u64 (s : Int), .slice a l.length c] 25)).alloc (.cells #[.int .u64 (p.num : Int), .int .i64 p.fr, .int .i64 p.to, .slice ab p.bs.length cb, .bool p.sp] 33)).alloc (.cells #[.int .u64 0, .slice none 0 0] 25)).heap.size = w.heap.size + 3 := by simp
  have hSZ := Lib.hid hsz
  clear e1 e2 e3
  by_cases h : l.length = 20000 ∨ s = 1099511627776
  · have hT : addM ⟨s, l⟩ p = { e := 6 } := by unfold addM; rw [if_pos h]
    rw [hT]
    have h1 : ((l.length : Int) == 20000) = true ∨ (((l.length : Int) == 20000) = false ∧ ((s : Int) == 1099511627776) = true) := by
      by_cases h0 : l.length = 20000
      · exact .inl (by simp; omega)
      · exact .inr ⟨by rw [beq_eq_false_iff_ne]; omega, by rw [beq_iff_eq]; omega⟩
    clear hP hB hT
    rcases h1 with h1 | ⟨h1, h2⟩
    all_goals
      go_enter Try.func54, Try.ntmps54
      go_upto_region 1 with (fail)
      generalize (((w.alloc (.cells #[.int .u64 (s : Int), .slice a l.length c] 25)).alloc (.cells #[.int .u64 (p.num : Int), .int .i64 p.fr, .int .i64 p.to, .slice ab p.bs.length cb, .bool p.sp] 33)).alloc (.cells #[.int .u64 0, .slice none 0 0] 25)) = W at *
      generalize hwb : w.heap.size = wb at *
      have HWB := Lib.hid hwb
      clear hwb
      obtain ⟨d0, d1⟩ := b2.c2
      obtain ⟨r0, r1⟩ := b4.c2
      have rf := b4.frozen
      go_wp2_with (fail)
      have x5 := ((Ext.refl [wb + 1 + 1] W).setCell (p := ⟨wb + 1 + 1, 0, none⟩) (.inl (by simp)) (.int .u64 0)).setCell (p := ⟨wb + 1 + 1, 1, none⟩) (.inl (by simp)) (.slice none 0 0)
      refine ret_cell_tmp2 Try.results54 rfl ((b4.set 0 (.int .u64 0)).set 1 (.slice none 0 0)) Try.underlying25 rfl net_info rfl ⟨_, [], ⟨_, _, _, rfl⟩, rfl, OPs.nil _ _, ?_⟩
      exact hE.trans' x5 (fun i hi => .inr (by have := HWB.out; simp at hi; omega))
  · have hT : addM ⟨s, l⟩ p = { n := ⟨s + 1, l ++ [{ p with num := s + 1 }]⟩, num := s + 1 } := by unfold addM; rw [if_neg h]
    rw [hT]
    have h1 : ((l.length : Int) == 20000) = false := by rw [beq_eq_false_iff_ne]; omega
    have h2 : ((s : Int) == 1099511627776) = false := by rw [beq_eq_false_iff_ne]; omega
    have hs2 : s < 1099511627776 := by omega
    have cp := Copy_any (((w.alloc (.cells #[.int .u64 (s : Int), .slice a l.length c] 25)).alloc (.cells #[.int .u64 (p.num : Int), .int .i64 p.fr, .int .i64 p.to, .slice ab p.bs.length cb, .bool p.sp] 33)).alloc (.cells #[.int .u64 0, .slice none 0 0] 25)) s _ l hP (by omega) hlb
    clear hT h hP
    go_enter Try.func54, Try.ntmps54
    go_upto_region 1 with (fail)
    generalize (((w.alloc (.cells #[.int .u64 (s : Int), .slice a l.length c] 25)).alloc (.cells #[.int .u64 (p.num : Int), .int .i64 p.fr, .int .i64 p.to, .slice ab p.bs.length cb, .bool p.sp] 33)).alloc (.cells #[.int .u64 0, .slice none 0 0] 25)) = W at *
    generalize hwb : w.heap.size = wb at *
    have HWB := Lib.hid hwb
    clear hwb
    obtain ⟨d0, d1⟩ := b2.c2
    go_upto_region 4 with (go_at_call 15; (with_reducible refine cp.mono ?_); rintro e w2 ⟨v2, rs2, ⟨a2, n2, c2, rfl⟩, rfl, hO2, x2⟩; have b22 := b2.ext x2 (by simp); have f2 := b22.frozen; obtain ⟨g0, g1⟩ := b22.c2)
    obtain ⟨a2', c2', e2⟩ := hO2.shape
    simp only [Value.slice.injEq] at e2
    obtain ⟨rfl, rfl, rfl⟩ := e2
    have x3 := ((Ext.refl [wb] w2).setCell (p := ⟨wb, 0, none⟩) (.inl (by simp)) (.int .u64 (s : Int))).setCell (p := ⟨wb, 1, none⟩) (.inl (by simp)) (.slice a2 l.length c2)
    have b23 := (b22.set 0 (.int .u64 (s : Int))).set 1 (.slice a2 l.length c2)
    simp only [List.set_cons_zero, List.set_cons_succ] at b23
    have hO3 := hO2.other b22 (by decide) (by decide) x3
    have b33 := (b3.ext x2 (by simp)).ext x3 (by simp)
    have b43 := (b4.ext x2 (by simp)).ext x3 (by simp; omega)
    have hB3 := (hB.ext x2 (by simp)).keep' x3 (fun m => (by have e : ob = wb := (by simpa using m); subst e; exact net_no_byte b22))
    have hW3 : W.heap.size ≤ ((w2.setCell ⟨wb, 0, none⟩ (.int .u64 (s : Int))).setCell ⟨wb, 1, none⟩ (.slice a2 l.length c2)).heap.size := Nat.le_trans x2.size x3.size
    have hX3 := (hE.trans x2).trans' x3 (fun i hi => .inr (by have := HWB.out; simp at hi; omega))
    generalize (w2.setCell ⟨wb, 0, none⟩ (.int .u64 (s : Int))).setCell ⟨wb, 1, none⟩ (.slice a2 l.length c2) = W3 at *
    clear b22 b2 b3 b4 hB x2 x3 d0 d1 g0 g1 f2 cp
    obtain ⟨d0, d1⟩ := b23.c2
    have df := b23.frozen 0
    go_upto_region 5 with (fail)
    have x4 := (Ext.refl [wb] W3).setCell (p := ⟨wb, 0, none⟩) (.inl (by simp)) (.int .u64 ((s : Int) + 1))
    have b24 := b23.set 0 (.int .u64 ((s : Int) + 1))
    simp only [List.set_cons_zero] at b24
    have hO4 := hO3.other b23 (by decide) (by decide) x4
    have b34 := b33.ext x4 (by simp)
    have b44 := b43.ext x4 (by simp; omega)
    have hB4 := hB3.keep' x4 (fun m => (by have e : ob = wb := (by simpa using m); subst e; exact net_no_byte b23))
    have hW4 : W.heap.size ≤ (W3.setCell ⟨wb, 0, none⟩ (.int .u64 ((s : Int) + 1))).heap.size := Nat.le_trans hW3 x4.size
    have hX4 := hX3.trans' x4 (fun i hi => .inr (by have := HWB.out; simp at hi; omega))
    generalize W3.setCell ⟨wb, 0, none⟩ (.int .u64 ((s : Int) + 1)) = W4 at *
    clear b23 b33 b43 hO3 hB3 hX3 x4 d0 d1 df
    obtain ⟨d0, d1⟩ := b24.c2
    obtain ⟨q0, q1, q2, q3, q4⟩ := b34.c5
    have xd := (Ext.refl [] W4).drew
    have hS0 : W4.drew.cell? ⟨wb, 0, none⟩ = some (.int .u64 ((s : Int) + 1)) ∧ W4.drew.cell? ⟨wb + 1, 3, none⟩ = some (.slice ab p.bs.length cb) := ⟨d0, q3⟩
    refine region_but (fun u => u.cell? ⟨wb, 0, none⟩ = some (.int .u64 ((s : Int) + 1)) ∧ u.cell? ⟨wb + 1, 3, none⟩ = some (.slice ab p.bs.length cb)) [9] 10 rfl (by kernel_rfl) ?_
    have hO5 := hO4.ext xd
    have b25 := b24.ext xd (by simp)
    have b35 := b34.ext xd (by simp)
    have b45 := b44.ext xd (by simp)
    have hB5 := hB4.ext xd (by simp)
    have hX5 := hX4.trans xd
    have hWx : W.heap.size ≤ W4.drew.heap.size := Nat.le_trans hW4 xd.size
    clear d0 d1 q0 q1 q2 q3 q4 xd hO4 b24 b34 b44 hB4 hX4
    generalize W4.drew = U0 at *
    refine HeldBut.take (i := 0) (v := ?_) rfl (by kernel_rfl) (by kernel_rfl) (by kernel_rfl) (by kernel_rfl) (fun _ _ _ h => h) (Or.inl ⟨by kernel_rfl, ?_⟩) hS0 ?_; rotate_left 1; (focus (intro u hu; (try dsimp only at hu); go_simp; try with_reducible rfl))
    try simp only [Act.put, List.getElem_toArray, List.getElem_cons_zero, List.getElem_cons_succ, List.setIfInBounds_toArray, List.set_cons_zero, List.set_cons_succ]
    refine HeldBut.take (i := 1) (v := ?_) rfl (by kernel_rfl) (by kernel_rfl) (by kernel_rfl) (by kernel_rfl) (fun _ _ _ h => h) (Or.inl ⟨by kernel_rfl, ?_⟩) hS0 ?_; rotate_left 1; (focus (intro u hu; (try dsimp only at hu); go_simp; try with_reducible rfl))
    try simp only [Act.put, List.getElem_toArray, List.getElem_cons_zero, List.getElem_cons_succ, List.setIfInBounds_toArray, List.set_cons_zero, List.set_cons_succ]
    refine HeldBut.take (i := 3) (v := ?_) rfl (by kernel_rfl) (by kernel_rfl) (by kernel_rfl) (by kernel_rfl) (fun _ _ _ h => h) (Or.inl ⟨by kernel_rfl, ?_⟩) hS0 ?_; rotate_left 1; (focus (intro u hu; (try dsimp only at hu); go_simp; try with_reducible rfl))
    try simp only [Act.put, List.getElem_toArray, List.getElem_cons_zero, List.getElem_cons_succ, List.setIfInBounds_toArray, List.set_cons_zero, List.set_cons_succ]
    refine HeldBut.take (i := 4) (v := ?_) rfl (by kernel_rfl) (by kernel_rfl) (by kernel_rfl) (by kernel_rfl) (fun _ _ _ h => h) (Or.inl ⟨by kernel_rfl, ?_⟩) hS0 ?_; rotate_left 1; (focus (intro u hu; (try dsimp only at hu); go_simp; try with_reducible rfl))
    try simp only [Act.put, List.getElem_toArray, List.getElem_cons_zero, List.getElem_cons_succ, List.setIfInBounds_toArray, List.set_cons_zero, List.set_cons_succ]
    refine HeldBut.take (i := 6) (v := ?_) rfl (by kernel_rfl) (by kernel_rfl) (by kernel_rfl) (by kernel_rfl) (fun _ _ _ h => h) (Or.inl ⟨by kernel_rfl, ?_⟩) hS0 ?_; rotate_left 1; (focus (intro u hu; (try dsimp only at hu); go_simp; try with_reducible rfl))
    try simp only [Act.put, List.getElem_toArray, List.getElem_cons_zero, List.getElem_cons_succ, List.setIfInBounds_toArray, List.set_cons_zero, List.set_cons_succ]
    refine HeldBut.one (i := 2) (by kernel_rfl) ?_
    refine HeldBut.step (i := 2) rfl (fun K hK => ?_)
    try simp only [List.getElem_toArray, List.getElem_cons_zero, List.getElem_cons_succ]
    go_simp
    have y2 := (Ext.refl [] U0).alloc (.cells #[] 5)
    have hS1 := keepW hS0 y2 (by simp) (by simp)
    have o2 : (U0.alloc (.cells #[] 5)).ownsRow U0.heap.size 5 1 (.slice (some ⟨U0.heap.size, 0, none⟩) 0 0) 0 [] := World.ownsRow_lit (base := U0.heap.size) _ _ 0 (Nat.le_refl _) (by decide) rfl
    have hB5 := hB5.ext y2 (by simp)
    have HOLD : Hid (∀ (k : Nat) q, rs2[k]? = some q → ∀ c, q.b.ownBlock = some c → c < U0.heap.size) := fun k q hq c hc => by
      have hkl := (List.getElem?_eq_some_iff.1 hq).1
      exact (own_block (hO5.all.2 k q _ hq (List.getElem?_eq_getElem (by rw [← hO5.all.1]; exact hkl))).2.2.2.2 hc).2.1
    have hlw := b45.lt
    have hwu : w.heap.size ≤ U0.heap.size := hX5.size
    have hWu := hWx
    have hWu0 : W.heap.size ≤ U0.heap.size := hWx
    have hu0 : U0.heap.size ≤ (U0.alloc (.cells #[] 5)).heap.size := y2.size
    refine hK.out _ _ (fun _ => hS1) ?_; clear hK K
    try simp only [Act.put, List.getElem_toArray, List.getElem_cons_zero, List.getElem_cons_succ, List.setIfInBounds_toArray, List.set_cons_zero, List.set_cons_succ]
    clear hS0
    have hS0 := hS1; clear hS1
    generalize U0.alloc (.cells #[] 5) = U2 at *
    have hub0 : W.heap.size ≤ U0.heap.size := hWx
    generalize hub : U0.heap.size = ub at *
    have HUB := Lib.hid hub
    clear hub
    refine HeldBut.one (i := 5) (by kernel_rfl) ?_
    refine HeldBut.step (i := 5) rfl (fun K hK => ?_)
    refine step_append_any T22 (by rfl) (.tmp 25) (.tmp 27) (by rfl) (by rfl) (by rfl) o2 hB5 (BV_one p.bs) (by unfold maxLen; omega) (by omega) hu0 ?_
    intro v5 w5 o5 e5
    rw [Nat.zero_add, List.nil_append] at o5
    obtain ⟨a5, c5, rfl⟩ := own_shape o5
    have e5' : Ext [ub] U2 w5 := e5
    have x5 : Ext [] U0 w5 := y2.trans' e5' (fun i hi => .inr (by have := HUB.out; simp at hi; omega))
    have hS1 := keepW hS0 e5' (by simp; omega) (by simp; omega)
    have hO6 := hO5.ext x5
    have b26 := b25.ext x5 (by simp)
    have b36 := b35.ext x5 (by simp)
    have b46 := b45.ext x5 (by simp)
    have hX6 := hX5.trans x5
    have hW6 : W.heap.size ≤ w5.heap.size := Nat.le_trans hWu0 (by have := x5.size; rw [HUB.out] at this; exact this)
    refine hK.out _ _ (fun _ => hS1) ?_; clear hK K
    try simp only [Act.put, List.getElem_toArray, List.getElem_cons_zero, List.getElem_cons_succ, List.setIfInBounds_toArray, List.set_cons_zero, List.set_cons_succ]
    clear hS0 y2 o2 hB5 e5 e5' x5 hO5 b25 b35 b45 hX5
    have hS0 := hS1; clear hS1
    obtain ⟨q0, q1, q2, q3, q4⟩ := b36.c5
    have qf := b36.frozen
    refine HeldBut.one (i := 7) (by kernel_rfl) ?_
    refine HeldBut.step (i := 7) rfl (fun K hK => ?_)
    try simp only [List.getElem_toArray, List.getElem_cons_zero, List.getElem_cons_succ]
    go_simp
    have x7 := (Ext.refl [wb + 1] w5).setCell (p := ⟨wb + 1, 0, none⟩) (.inl (by simp)) (.int .u64 ((s : Int) + 1))
    have b37 := b36.set 0 (.int .u64 ((s : Int) + 1))
    simp only [List.set_cons_zero] at b37
    have hS1 : (w5.setCell ⟨wb + 1, 0, none⟩ (.int .u64 ((s : Int) + 1))).cell? ⟨wb, 0, none⟩ = some (.int .u64 ((s : Int) + 1)) ∧ (w5.setCell ⟨wb + 1, 0, none⟩ (.int .u64 ((s : Int) + 1))).cell? ⟨wb + 1, 3, none⟩ = some (.slice ab p.bs.length cb) := ⟨x7.read hS0.1 (by simp), b37.cell 3⟩
    have hO7 := hO6.keep x7 (by intro k hk; have := hSZ.out; simp at hk; omega)
    have b27 := b26.ext x7 (by simp)
    have b47 := b46.ext x7 (by simp)
    have o7 := own_ext o5 x7 (own_ne o5 b36 (by decide))
    have hW7 := Nat.le_trans hW6 x7.size
    have hX7 := hX6.trans' x7 (fun i hi => .inr (by have := HWB.out; simp at hi; omega))
    refine hK.out _ _ (fun _ => hS1) ?_; clear hK K
    try simp only [Act.put, List.getElem_toArray, List.getElem_cons_zero, List.getElem_cons_succ, List.setIfInBounds_toArray, List.set_cons_zero, List.set_cons_succ]
    clear hS0 q0 q1 q2 q3 q4 qf
    have hS0 := hS1; clear hS1
    generalize w5.setCell ⟨wb + 1, 0, none⟩ (.int .u64 ((s : Int) + 1)) = U7 at *
    clear x7 hO6 b26 b36 b46 o5 hX6
    refine HeldBut.take (i := 8) (v := ?_) rfl (by kernel_rfl) (by kernel_rfl) (by kernel_rfl) (by kernel_rfl) (fun _ _ _ h => h) (Or.inl ⟨by kernel_rfl, ?_⟩) hS0 ?_; rotate_left 1; (focus (intro u hu; (try dsimp only at hu); go_simp; try with_reducible rfl))
    try simp only [Act.put, List.getElem_toArray, List.getElem_cons_zero, List.getElem_cons_succ, List.setIfInBounds_toArray, List.set_cons_zero, List.set_cons_succ]
    obtain ⟨q0, q1, q2, q3, q4⟩ := b37.c5
    have qf := b37.frozen
    refine HeldBut.one (i := 9) (by kernel_rfl) ?_
    refine HeldBut.step (i := 9) rfl (fun K hK => ?_)
    try simp only [List.getElem_toArray, List.getElem_cons_zero, List.getElem_cons_succ]
    go_simp
    have x9 := (Ext.refl [wb + 1] U7).setCell (p := ⟨wb + 1, 3, none⟩) (.inl (by simp)) (.slice a5 p.bs.length c5)
    have b39 := b37.set 3 (.slice a5 p.bs.length c5)
    simp only [List.set_cons_zero, List.set_cons_succ] at b39
    have hO9 := hO7.keep x9 (by intro k hk; have := hSZ.out; simp at hk; omega)
    have b29 := b27.ext x9 (by simp)
    have b49 := b47.ext x9 (by simp)
    have o9 := own_ext o7 x9 (own_ne o7 b37 (by decide))
    have hWx := Nat.le_trans hW7 x9.size
    have hX9 := hX7.trans' x9 (fun i hi => .inr (by have := HWB.out; simp at hi; omega))
    refine hK.out _ _ (fun h => (h (by simp)).elim) ?_; clear hK K
    try simp only [Act.put, List.getElem_toArray, List.getElem_cons_zero, List.getElem_cons_succ, List.setIfInBounds_toArray, List.set_cons_zero, List.set_cons_succ]
    clear hS0 q0 q1 q2 q3 q4 qf
    generalize U7.setCell ⟨wb + 1, 3, none⟩ (.slice a5 p.bs.length c5) = U9 at *
    clear x9 hO7 b27 b37 b47 o7 hX7
    refine HeldBut.done (by kernel_rfl) ?_ _
    obtain ⟨d0, d1⟩ := b29.c2
    obtain ⟨q0, q1, q2, q3, q4⟩ := b39.c5
    have df := b29.frozen 1
    have yA := (Ext.refl [] U9).alloc (.cells #[.int .u64 ((s : Int) + 1), .int .i64 p.fr, .int .i64 p.to, .slice a5 p.bs.length c5, .bool p.sp] 33)
    have hOA := hO9.ext yA
    have hown := hOA.own
    rw [hOA.all.1] at hown
    have hbase : W.heap.size ≤ (U9.alloc (.cells #[.int .u64 ((s : Int) + 1), .int .i64 p.fr, .int .i64 p.to, .slice a5 p.bs.length c5, .bool p.sp] 33)).heap.size := by
      have h1 := yA.size
      have := hWx
      omega
    have b2A := b29.ext yA (by simp)
    have dA := b2A.frozen 1
    have kA := b2A.cell 1
    go_upto_region 7 with (at_builtin; refine wpList_append_sl TPar rfl (.tmp 32) (.tmp 34) rfl rfl hown rfl (Sl.lit U9 [.int .u64 ((s : Int) + 1), .int .i64 p.fr, .int .i64 p.to, .slice a5 p.bs.length c5, .bool p.sp] 33 5 1 rfl (by decide)) (by intro u hu; simp at hu; rcases hu with rfl | rfl | rfl | rfl | rfl <;> rfl) (by unfold maxLen; omega) (by omega) hbase ?_; intro v6 W6 r1 r2; obtain ⟨a6, c6, rfl⟩ := own_shape r1; have q2 : Ext (Value.slice a2 l.length c2).ownBlock.toList _ W6 := r2; have b26 := b2A.ext q2 (fun m => own_ne hown b2A (by decide) wb (by simpa using m) (by simp)); have f6 := b26.frozen 1; have k6 := b26.cell 1)
    have hOI : OIs W.heap.size (U9.alloc (.cells #[.int .u64 ((s : Int) + 1), .int .i64 p.fr, .int .i64 p.to, .slice a5 p.bs.length c5, .bool p.sp] 33)) ⟨s + 1, p.fr, p.to, .slice a5 p.bs.length c5, p.sp⟩ { p with num := s + 1 } := ⟨rfl, rfl, rfl, rfl, own_mono (own_ext o9 yA (fun _ _ => by simp)) hub0⟩
    have hO6 := hOA.snoc hOI (fun k q hq c hc e => by
      have h1 := HOLD.out k q hq c hc
      have h2 := (own_block o9 (show (Value.slice a5 p.bs.length c5).ownBlock = some c from e)).1
      omega) (by rw [hOA.all.1]; exact r1) q2
    have x6 := (Ext.refl [wb] W6).setCell (p := ⟨wb, 1, none⟩) (.inl (by simp)) (.slice a6 (l.length + 1) c6)
    have b46 := (b49.ext yA (by simp)).ext q2 (fun m => own_ne hown (b49.ext yA (by simp)) (by decide) (wb + 1 + 1) (by simpa using m) (by simp))
    have b47 := b46.ext x6 (by simp; omega)
    have b27 := b26.set 1 (.slice a6 (l.length + 1) c6)
    simp only [List.set_cons_zero, List.set_cons_succ] at b27
    have hO7 := hO6.other b26 (by decide) (by decide) x6
    have hX7 := ((hX9.trans yA).trans' q2 (fun i hi => .inr (by have := own_ge hown i hi; have := hSZ.out; have := HWB.out; omega))).trans' x6 (fun i hi => .inr (by have := HWB.out; simp at hi; omega))
    generalize W6.setCell ⟨wb, 1, none⟩ (.slice a6 (l.length + 1) c6) = W7 at *
    clear hO6 x6 b46 b26 f6 k6 r1 q2 yA hOA hown hOI hO9 b29 b39 b49 o9 hX9
    obtain ⟨d0, d1⟩ := b27.c2
    obtain ⟨g0, g1⟩ := b47.c2
    have gf := b47.frozen
    go_region
    have x8 := ((Ext.refl [wb + 1 + 1] W7).setCell (p := ⟨wb + 1 + 1, 0, none⟩) (.inl (by simp)) (.int .u64 ((s : Int) + 1))).setCell (p := ⟨wb + 1 + 1, 1, none⟩) (.inl (by simp)) (.slice a6 (l.length + 1) c6)
    have b48 := (b47.set 0 (.int .u64 ((s : Int) + 1))).set 1 (.slice a6 (l.length + 1) c6)
    simp only [List.set_cons_zero, List.set_cons_succ] at b48
    have hO8 := hO7.other b47 (by decide) (by decide) x8
    have hX8 := hX7.trans' x8 (fun i hi => .inr (by have := HWB.out; simp at hi; omega))
    have HH := Lib.hid (And.intro b48 (And.intro hO8 hX8))
    clear b48 hO8 hX8 x8 hO7 hX7 b47 b27 d0 d1 g0 g1 gf
    go_wp2_with (fail)
    have hsc : ((s + 1 : Nat) : Int) = (s : Int) + 1 := by omega
    refine ret_cell_tmp2 Try.results54 rfl (Blk.drew HH.out.1) Try.underlying25 rfl net_info rfl ⟨.slice a6 (l.length + 1) c6, _, ⟨_, _, _, rfl⟩, ?_, (HH.out.2.1.ext ((Ext.refl [] _).drew)).mono (by rw [HWB.out, hSZ.out]; omega), HH.out.2.2.drew⟩
    rw [← hsc]
    rfl
/-- where it is; -1: nowhere -/
def findR (l : List Par) (k : Nat) : Int := if fnd l k < l.length then (fnd l k : Int) else -1
theorem fnd_hit {l : List Par} {k j : Nat} {p : Par} (h : ∀ q ∈ l.take j, q.num ≠ k) (hp : l[j]? = some p) (hk : p.num = k) : fnd l k = j := by
  unfold fnd
  have hjl := (List.getElem?_eq_some_iff.1 hp).1
  rw [List.findIdx_eq hjl]
  refine ⟨by rw [(List.getElem?_eq_some_iff.1 hp).2]; simpa using hk, fun i hi => ?_⟩
  have hil : i < l.length := by omega
  have := h l[i] (List.mem_of_getElem? (i := i) (by rw [List.getElem?_take_of_lt hi]; exact List.getElem?_eq_getElem hil))
  simpa using this
theorem fnd_miss {l : List Par} {k : Nat} (h : ∀ q ∈ l, q.num ≠ k) : fnd l k = l.length := by
  unfold fnd
  rw [List.findIdx_eq_length]
  intro q hq
  simpa using h q hq
set_option maxRecDepth 100000 in
set_option maxHeartbeats 4000000 in
theorem Find_any (w : World) (s k : Nat) (v : Value) (l : List Par) (hP : Ps w v l) (hll : l.length ≤ 100000) :
    Calls Try.prog 57 #[NV s v, .int .u64 (k : Int)] w fun e w' => e = .returned (.int .i64 (findR l k)) ∧ Ext [] w w' := by
  obtain ⟨a, c, rfl⟩ := hP.shape
  have hE := (Ext.refl [] w).alloc (.cells #[.int .u64 (s : Int), .slice a l.length c] 25)
  have b1 := Blk.new w [.int .u64 (s : Int), .slice a l.length c] 25
  have hP := hP.ext hE
  obtain ⟨d0, d1⟩ := b1.c2
  generalize hF : findR l k = F
  have HF := Lib.hid hF
  clear hF
  go_enter Try.func57, Try.ntmps57
  go_upto_region 1 with (fail)
  generalize w.alloc (.cells #[.int .u64 (s : Int), .slice a l.length c] 25) = W at *
  generalize w.heap.size = wb at d0 d1 b1
  go_wp2_with (fail)
  go_loopw [10] (fun i wr => ∃ j : Nat, i = .int .i64 (j : Int) ∧ j ≤ l.length ∧ Ext [] W wr ∧ Hid (∀ q ∈ l.take j, q.num ≠ k)) (fun i _ => l.length - (intOf i).toNat)
  case atStart => exact ⟨0, rfl, by omega, Ext.refl _ _, (by intro q hq; simp at hq)⟩
  case round =>
    obtain ⟨j, rfl, hj, hX, hI⟩ := hrel
    by_cases hlt : j < l.length
    · have hp : l[j]? = some l[j] := List.getElem?_eq_getElem hlt
      generalize l[j] = p at *
      obtain ⟨ob, o, a1, c1, rfl, p0, p1, p2, p3, p4, oc, hb⟩ := (hP.ext hX).at j p hp
      have x1 := (Ext.refl [] wr).alloc (.cells #[.int .u64 (p.num : Int), .int .i64 p.fr, .int .i64 p.to, .slice a1 p.bs.length c1, .bool p.sp] 33)
      obtain ⟨i0, i1, i2, i3, i4⟩ := (Blk.new wr [.int .u64 (p.num : Int), .int .i64 p.fr, .int .i64 p.to, .slice a1 p.bs.length c1, .bool p.sp] 33).c5
      have hX1 := hX.trans x1
      by_cases hk : p.num = k
      · have hk' : ((p.num : Int) == (k : Int)) = true := by rw [beq_iff_eq]; omega
        have HR : Hid (F = (j : Int)) := by
          show _ = _
          rw [← HF.out]
          unfold findR
          rw [fnd_hit hI.out hp hk, if_pos hlt]
        clear hk hI hp
        go_wp2_with (fail)
        go_ret
        exact ⟨by rw [HR.out]; rfl, hE.trans hX1⟩
      · have hk' : ((p.num : Int) == (k : Int)) = false := by rw [beq_eq_false_iff_ne]; omega
        have HI : Hid (∀ q ∈ l.take (j + 1), q.num ≠ k) := by
          intro q hq
          rw [List.take_add_one, hp] at hq
          rcases List.mem_append.1 hq with h | h
          · exact hI.out q h
          · simp at h; subst h; exact hk
        clear hk hI hp
        go_wp2_with (fail)
        go_roundw
        case rel => exact ⟨j + 1, by go_num, by omega, hX1, HI.out⟩
        case measure => simp [intOf]; omega
    · obtain rfl : j = l.length := by omega
      have HR : Hid (F = -1) := by
        show _ = _
        rw [← HF.out]
        unfold findR
        rw [fnd_miss (by have := hI.out; rw [List.take_length] at this; exact this), if_neg (by omega)]
      go_wp2_with (fail)
      go_ret
      exact ⟨by rw [HR.out]; rfl, hE.trans hX⟩
theorem keep7 {X : List Nat} {u u' : World} {wb ob o0 o1 o2 o3 o4 : Nat} {v0 v1 v2 v3 v4 v5 v6 : Value} (h : u.cell? ⟨wb, 0, none⟩ = some v0 ∧ u.cell? ⟨wb, 1, none⟩ = some v1 ∧ u.cell? ⟨ob, o0, none⟩ = some v2 ∧ u.cell? ⟨ob, o1, none⟩ = some v3 ∧ u.cell? ⟨ob, o2, none⟩ = some v4 ∧ u.cell? ⟨ob, o3, none⟩ = some v5 ∧ u.cell? ⟨ob, o4, none⟩ = some v6) (e : Ext X u u') (h0 : wb ∉ X) (h1 : ob ∉ X) :
    u'.cell? ⟨wb, 0, none⟩ = some v0 ∧ u'.cell? ⟨wb, 1, none⟩ = some v1 ∧ u'.cell? ⟨ob, o0, none⟩ = some v2 ∧ u'.cell? ⟨ob, o1, none⟩ = some v3 ∧ u'.cell? ⟨ob, o2, none⟩ = some v4 ∧ u'.cell? ⟨ob, o3, none⟩ = some v5 ∧ u'.cell? ⟨ob, o4, none⟩ = some v6 :=
  ⟨e.read h.1 h0, e.read h.2.1 h0, e.read h.2.2.1 h1, e.read h.2.2.2.1 h1, e.read h.2.2.2.2.1 h1, e.read h.2.2.2.2.2.1 h1, e.read h.2.2.2.2.2.2 h1⟩
set_option maxRecDepth 100000 in
set_option maxHeartbeats 4000000 in
theorem RefSend_any (w : World) (s : Nat) (v : Value) (l : List Par) (f t : Int) (ab : Option Addr) (cb ob : Nat) (bs : List UInt8) (hP : Ps w v l) (hB : Bs w (.slice ab bs.length cb) ob bs) (hll : l.length ≤ 20000) (hlb : ∀ q ∈ l, q.bs.length ≤ 100000) (hs : s ≤ 1099511627776) :
    Calls Try.prog 25 #[NV s v, .int .i64 f, .int .i64 t, .slice ab bs.length cb] w (Ans3 w (sendM ⟨s, l⟩ f t bs)) := by
  have hbm := sl_len hB
  unfold maxLen at hbm
  obtain ⟨a, c, rfl⟩ := hP.shape
  have e1 := (Ext.refl [] w).alloc (.cells #[.int .u64 (s : Int), .slice a l.length c] 25)
  have e2 := (Ext.refl [] (w.alloc (.cells #[.int .u64 (s : Int), .slice a l.length c] 25))).alloc (.cells #[.int .u64 0, .slice none 0 0] 25)
  have b1 := (Blk.new w [.int .u64 (s : Int), .slice a l.length c] 25).ext e2 (by simp)
  have b5 := Blk.new (w.alloc (.cells #[.int .u64 (s : Int), .slice a l.length c] 25)) [.int .u64 0, .slice none 0 0] 25
  have hE := e1.trans e2
  simp only [World.size_alloc] at b5
  have hP := hP.ext hE
  have hB := hB.ext hE (by simp)
  have hsz : ((w.alloc (.cells #[.int .u64 (s : Int), .slice a l.length c] 25)).alloc (.cells #[.int .u64 0, .slice none 0 0] 25)).heap.size = w.heap.size + 2 := by simp
  have hSZ := Lib.hid hsz
  clear e1 e2 hsz
  have pr := fun w => Pair_any w f t
  have wt := fun (h : bs.length ≤ 100000) => with_any ((w.alloc (.cells #[.int .u64 (s : Int), .slice a l.length c] 25)).alloc (.cells #[.int .u64 0, .slice none 0 0] 25)) s _ l ⟨0, f, t, bs, false⟩ ab cb ob hP hB h hll hlb hs
  rw [show PV 0 f t (.slice ab bs.length cb) false = .agg #[.int .u64 0, .int .i64 f, .int .i64 t, .slice ab bs.length cb, .bool false] from rfl] at wt
  obtain ⟨n0, n1⟩ := b1.c2
  unfold sendM
  clear hP hB
  cases hw : isWay f t
  · rw [hw] at pr
    rw [if_pos rfl]
    clear wt hw
    go_enter Try.func25, Try.ntmps25
    go_upto_region 1 with (fail)
    generalize ((w.alloc (.cells #[.int .u64 (s : Int), .slice a l.length c] 25)).alloc (.cells #[.int .u64 0, .slice none 0 0] 25)) = W at *
    generalize hwb : w.heap.size = wb at *
    have HWB := Lib.hid hwb
    clear hwb
    obtain ⟨r0, r1⟩ := b5.c2
    have rf := b5.frozen
    go_wp2_with (go_at_call 44; (with_reducible refine (pr _).mono ?_); rintro e w1 ⟨rfl, rfl⟩)
    have x5 := ((Ext.refl [wb + 1] w1).setCell (p := ⟨wb + 1, 0, none⟩) (.inl (by simp)) (.int .u64 0)).setCell (p := ⟨wb + 1, 1, none⟩) (.inl (by simp)) (.slice none 0 0)
    refine ret_cell_tmp2 Try.results25 rfl ((b5.set 0 (.int .u64 0)).set 1 (.slice none 0 0)) Try.underlying25 rfl net_info rfl ⟨_, [], ⟨_, _, _, rfl⟩, rfl, OPs.nil _ _, ?_⟩
    exact hE.trans' x5 (fun i hi => .inr (by have := HWB.out; simp at hi; omega))
  · rw [hw] at pr
    rw [if_neg (by simp)]
    by_cases h3 : 60000 < bs.length
    · rw [if_pos h3]
      have h3' : (60000 : Int) < (bs.length : Int) := by omega
      clear wt hw
      go_enter Try.func25, Try.ntmps25
      go_upto_region 1 with (fail)
      generalize ((w.alloc (.cells #[.int .u64 (s : Int), .slice a l.length c] 25)).alloc (.cells #[.int .u64 0, .slice none 0 0] 25)) = W at *
      generalize hwb : w.heap.size = wb at *
      have HWB := Lib.hid hwb
      clear hwb
      obtain ⟨r0, r1⟩ := b5.c2
      have rf := b5.frozen
      go_wp2_with (go_at_call 44; (with_reducible refine (pr _).mono ?_); rintro e w1 ⟨rfl, rfl⟩)
      have x5 := ((Ext.refl [wb + 1] w1).setCell (p := ⟨wb + 1, 0, none⟩) (.inl (by simp)) (.int .u64 0)).setCell (p := ⟨wb + 1, 1, none⟩) (.inl (by simp)) (.slice none 0 0)
      refine ret_cell_tmp2 Try.results25 rfl ((b5.set 0 (.int .u64 0)).set 1 (.slice none 0 0)) Try.underlying25 rfl net_info rfl ⟨_, [], ⟨_, _, _, rfl⟩, rfl, OPs.nil _ _, ?_⟩
      exact hE.trans' x5 (fun i hi => .inr (by have := HWB.out; simp at hi; omega))
    · rw [if_neg h3]
      have h3' : ¬ ((60000 : Int) < (bs.length : Int)) := by omega
      have wt := wt (by omega)
      generalize addM ⟨s, l⟩ ⟨0, f, t, bs, false⟩ = T at *
      clear hw
      go_enter Try.func25, Try.ntmps25
      go_upto_region 1 with (fail)
      generalize ((w.alloc (.cells #[.int .u64 (s : Int), .slice a l.length c] 25)).alloc (.cells #[.int .u64 0, .slice none 0 0] 25)) = W at *
      generalize hwb : w.heap.size = wb at *
      have HWB := Lib.hid hwb
      clear hwb
      go_wp2_with (first
        | (go_at_call 44; (with_reducible refine (pr _).mono ?_); rintro e w1 ⟨rfl, rfl⟩)
        | (go_at_call 54; (with_reducible refine wt.mono ?_); rintro e w2 ⟨v2, rs2, ⟨a2, n2, c2, rfl⟩, rfl, hO2, x2⟩; have b5 := b5.ext x2 (by simp); obtain ⟨r0, r1⟩ := b5.c2; have rf := b5.frozen))
      have x5 := ((Ext.refl [wb + 1] w2).setCell (p := ⟨wb + 1, 0, none⟩) (.inl (by simp)) (.int .u64 (T.n.s : Int))).setCell (p := ⟨wb + 1, 1, none⟩) (.inl (by simp)) (.slice a2 n2 c2)
      refine ret_cell_tmp2 Try.results25 rfl ((b5.set 0 (.int .u64 (T.n.s : Int))).set 1 (.slice a2 n2 c2)) Try.underlying25 rfl net_info rfl ⟨_, rs2, ⟨_, _, _, rfl⟩, rfl, (hO2.other b5 (by decide) (by decide) x5).mono (by rw [HWB.out, hSZ.out]; omega), ?_⟩
      exact (hE.trans x2).trans' x5 (fun i hi => .inr (by have := HWB.out; simp at hi; omega))
set_option maxRecDepth 100000 in
set_option maxHeartbeats 4000000 in
theorem RefTwin_any (w : World) (s k : Nat) (v : Value) (l : List Par) (hP : Ps w v l) (hll : l.length ≤ 20000) (hlb : ∀ q ∈ l, q.bs.length ≤ 100000) (hs : s ≤ 1099511627776) :
    Calls Try.prog 27 #[NV s v, .int .u64 (k : Int)] w (Ans3 w (twinM ⟨s, l⟩ k)) := by
  obtain ⟨a, c, rfl⟩ := hP.shape
  have e1 := (Ext.refl [] w).alloc (.cells #[.int .u64 (s : Int), .slice a l.length c] 25)
  have e2 := (Ext.refl [] (w.alloc (.cells #[.int .u64 (s : Int), .slice a l.length c] 25))).alloc (.cells #[.int .u64 0, .slice none 0 0] 25)
  have b1 := (Blk.new w [.int .u64 (s : Int), .slice a l.length c] 25).ext e2 (by simp)
  have b5 := Blk.new (w.alloc (.cells #[.int .u64 (s : Int), .slice a l.length c] 25)) [.int .u64 0, .slice none 0 0] 25
  have hE := e1.trans e2
  simp only [World.size_alloc] at b5
  have hPw := hP
  have hP := hP.ext hE
  have hsz : ((w.alloc (.cells #[.int .u64 (s : Int), .slice a l.length c] 25)).alloc (.cells #[.int .u64 0, .slice none 0 0] 25)).heap.size = w.heap.size + 2 := by simp
  have hSZ := Lib.hid hsz
  clear e1 e2 hsz
  have fd := Find_any ((w.alloc (.cells #[.int .u64 (s : Int), .slice a l.length c] 25)).alloc (.cells #[.int .u64 0, .slice none 0 0] 25)) s k _ l hP (by omega)
  obtain ⟨n0, n1⟩ := b1.c2
  unfold findR at fd
  by_cases hi : fnd l k < l.length
  · rw [if_pos hi] at fd
    obtain ⟨p, hp⟩ : ∃ p, l[fnd l k]? = some p := ⟨_, List.getElem?_eq_getElem hi⟩
    have hT : twinM ⟨s, l⟩ k = addM ⟨s, l⟩ p := by unfold twinM; exact atM_some rfl hp
    rw [hT]
    have hpb := hlb p (List.mem_of_getElem? hp)
    generalize fnd l k = i at *
    obtain ⟨ob, o, a1, c1, rfl, hPat⟩ := hP.at i p hp
    have hobl : ob < w.heap.size := by
      obtain ⟨ob', o', a1', c1', e', h'⟩ := hPw.at i p hp
      simp only [Option.some.injEq, Addr.mk.injEq, and_true] at e'
      rw [e'.1]
      exact World.block_lt_of_cell? _ _ h'.1
    go_enter Try.func27, Try.ntmps27
    go_upto_region 1 with (fail)
    generalize (w.alloc (.cells #[.int .u64 (s : Int), .slice (some ⟨ob, o, none⟩) l.length c] 25)).alloc (.cells #[.int .u64 0, .slice none 0 0] 25) = W at *
    generalize hwb : w.heap.size = wb at *
    have HWB := Lib.hid hwb
    clear hwb
    go_upto_region 4 with (go_at_call 57; (with_reducible refine fd.mono ?_); rintro e w1 ⟨rfl, x1⟩)
    obtain ⟨p0, p1, p2, p3, p4, oc, hb⟩ := hPat
    have xd := (Ext.refl [] w1).drew
    have hS0 : (w1.drew.cell? ⟨wb, 0, none⟩ = some (.int .u64 (s : Int)) ∧ w1.drew.cell? ⟨wb, 1, none⟩ = some (.slice (some ⟨ob, o, none⟩) l.length c) ∧ w1.drew.cell? ⟨ob, o + i * 5, none⟩ = some (.int .u64 (p.num : Int)) ∧ w1.drew.cell? ⟨ob, o + i * 5 + 1, none⟩ = some (.int .i64 p.fr) ∧ w1.drew.cell? ⟨ob, o + i * 5 + 2, none⟩ = some (.int .i64 p.to) ∧ w1.drew.cell? ⟨ob, o + i * 5 + 3, none⟩ = some (.slice a1 p.bs.length c1) ∧ w1.drew.cell? ⟨ob, o + i * 5 + 4, none⟩ = some (.bool p.sp)) := ⟨cells_ext x1 n0, cells_ext x1 n1, cells_ext x1 p0, cells_ext x1 p1, cells_ext x1 p2, cells_ext x1 p3, cells_ext x1 p4⟩
    have x1 := x1.trans xd
    have hil : (i : Int) < (l.length : Int) := by omega
    refine region_but (fun u => (u.cell? ⟨wb, 0, none⟩ = some (.int .u64 (s : Int)) ∧ u.cell? ⟨wb, 1, none⟩ = some (.slice (some ⟨ob, o, none⟩) l.length c) ∧ u.cell? ⟨ob, o + i * 5, none⟩ = some (.int .u64 (p.num : Int)) ∧ u.cell? ⟨ob, o + i * 5 + 1, none⟩ = some (.int .i64 p.fr) ∧ u.cell? ⟨ob, o + i * 5 + 2, none⟩ = some (.int .i64 p.to) ∧ u.cell? ⟨ob, o + i * 5 + 3, none⟩ = some (.slice a1 p.bs.length c1) ∧ u.cell? ⟨ob, o + i * 5 + 4, none⟩ = some (.bool p.sp))) [] 13 rfl (by kernel_rfl) ?_
    clear p0 p1 p2 p3 p4 xd fd n0 n1
    generalize w1.drew = U0 at *
    refine HeldBut.take (i := 0) (v := ?_) rfl (by kernel_rfl) (by kernel_rfl) (by kernel_rfl) (by kernel_rfl) (fun _ _ _ h => h) (Or.inl ⟨by kernel_rfl, ?_⟩) hS0 ?_; rotate_left 1; (focus (intro u hu; (try dsimp only at hu); go_simp; try with_reducible rfl))
    try simp only [Act.put, List.getElem_toArray, List.getElem_cons_zero, List.getElem_cons_succ, List.setIfInBounds_toArray, List.set_cons_zero, List.set_cons_succ]
    refine HeldBut.take (i := 1) (v := ?_) rfl (by kernel_rfl) (by kernel_rfl) (by kernel_rfl) (by kernel_rfl) (fun _ _ _ h => h) (Or.inl ⟨by kernel_rfl, ?_⟩) hS0 ?_; rotate_left 1; (focus (intro u hu; (try dsimp only at hu); go_simp; try with_reducible rfl))
    try simp only [Act.put, List.getElem_toArray, List.getElem_cons_zero, List.getElem_cons_succ, List.setIfInBounds_toArray, List.set_cons_zero, List.set_cons_succ]
    refine HeldBut.take (i := 2) (v := ?_) rfl (by kernel_rfl) (by kernel_rfl) (by kernel_rfl) (by kernel_rfl) (fun _ _ _ h => h) (Or.inl ⟨by kernel_rfl, ?_⟩) hS0 ?_; rotate_left 1; (focus (intro u hu; (try dsimp only at hu); go_simp; try with_reducible rfl))
    try simp only [Act.put, List.getElem_toArray, List.getElem_cons_zero, List.getElem_cons_succ, List.setIfInBounds_toArray, List.set_cons_zero, List.set_cons_succ]
    refine HeldBut.take (i := 3) (v := ?_) rfl (by kernel_rfl) (by kernel_rfl) (by kernel_rfl) (by kernel_rfl) (fun _ _ _ h => h) (Or.inl ⟨by kernel_rfl, ?_⟩) hS0 ?_; rotate_left 1; (focus (intro u hu; (try dsimp only at hu); go_simp; try with_reducible rfl))
    try simp only [Act.put, List.getElem_toArray, List.getElem_cons_zero, List.getElem_cons_succ, List.setIfInBounds_toArray, List.set_cons_zero, List.set_cons_succ]
    refine HeldBut.take (i := 4) (v := ?_) rfl (by kernel_rfl) (by kernel_rfl) (by kernel_rfl) (by kernel_rfl) (fun _ _ _ h => h) (Or.inl ⟨by kernel_rfl, ?_⟩) hS0 ?_; rotate_left 1; (focus (intro u hu; (try dsimp only at hu); go_simp; try with_reducible rfl))
    try simp only [Act.put, List.getElem_toArray, List.getElem_cons_zero, List.getElem_cons_succ, List.setIfInBounds_toArray, List.set_cons_zero, List.set_cons_succ]
    refine HeldBut.take (i := 5) (v := ?_) rfl (by kernel_rfl) (by kernel_rfl) (by kernel_rfl) (by kernel_rfl) (fun _ _ _ h => h) (Or.inl ⟨by kernel_rfl, ?_⟩) hS0 ?_; rotate_left 1; (focus (intro u hu; (try dsimp only at hu); go_simp; try with_reducible rfl))
    try simp only [Act.put, List.getElem_toArray, List.getElem_cons_zero, List.getElem_cons_succ, List.setIfInBounds_toArray, List.set_cons_zero, List.set_cons_succ]
    refine HeldBut.one (i := 6) (by kernel_rfl) ?_
    refine HeldBut.step (i := 6) rfl (fun K hK => ?_)
    try simp only [List.getElem_toArray, List.getElem_cons_zero, List.getElem_cons_succ]
    go_simp
    go_at_call 54
    (with_reducible refine (with_any U0 s _ l p a1 c1 oc (hP.ext x1) (hb.ext x1 (by simp)) hpb hll hlb hs).mono ?_)
    rintro e w2 ⟨v2, rs2, ⟨a2, n2, c2, rfl⟩, rfl, hO2, x2⟩
    dsimp only
    have hS1 := keep7 hS0 x2 (by simp) (by simp)
    have b52 := (b5.ext x1 (by simp)).ext x2 (by simp)
    have hX2 := x1.trans x2
    have hWU := x1.size
    refine hK.out _ _ (fun _ => hS1) ?_; clear hK K
    try simp only [Act.put, List.getElem_toArray, List.getElem_cons_zero, List.getElem_cons_succ, List.setIfInBounds_toArray, List.set_cons_zero, List.set_cons_succ]
    clear hS0 x1 x2
    have hS0 := hS1; clear hS1
    refine HeldBut.take (i := 7) (v := ?_) rfl (by kernel_rfl) (by kernel_rfl) (by kernel_rfl) (by kernel_rfl) (fun _ _ _ h => h) (Or.inl ⟨by kernel_rfl, ?_⟩) hS0 ?_; rotate_left 1; (focus (intro u hu; (try dsimp only at hu); go_simp; try with_reducible rfl))
    try simp only [Act.put, List.getElem_toArray, List.getElem_cons_zero, List.getElem_cons_succ, List.setIfInBounds_toArray, List.set_cons_zero, List.set_cons_succ]
    refine HeldBut.take (i := 8) (v := ?_) rfl (by kernel_rfl) (by kernel_rfl) (by kernel_rfl) (by kernel_rfl) (fun _ _ _ h => h) (Or.inl ⟨by kernel_rfl, ?_⟩) hS0 ?_; rotate_left 1; (focus (intro u hu; (try dsimp only at hu); go_simp; try with_reducible rfl))
    try simp only [Act.put, List.getElem_toArray, List.getElem_cons_zero, List.getElem_cons_succ, List.setIfInBounds_toArray, List.set_cons_zero, List.set_cons_succ]
    refine HeldBut.take (i := 9) (v := ?_) rfl (by kernel_rfl) (by kernel_rfl) (by kernel_rfl) (by kernel_rfl) (fun _ _ _ h => h) (Or.inl ⟨by kernel_rfl, ?_⟩) hS0 ?_; rotate_left 1; (focus (intro u hu; (try dsimp only at hu); go_simp; try with_reducible rfl))
    try simp only [Act.put, List.getElem_toArray, List.getElem_cons_zero, List.getElem_cons_succ, List.setIfInBounds_toArray, List.set_cons_zero, List.set_cons_succ]
    obtain ⟨r0, r1⟩ := b52.c2
    have rf := b52.frozen
    refine HeldBut.one (i := 10) (by kernel_rfl) ?_
    refine HeldBut.step (i := 10) rfl (fun K hK => ?_)
    try simp only [List.getElem_toArray, List.getElem_cons_zero, List.getElem_cons_succ]
    go_simp
    have x5 := ((Ext.refl [wb + 1] w2).setCell (p := ⟨wb + 1, 0, none⟩) (.inl (by simp)) (.int .u64 ((addM ⟨s, l⟩ p).n.s : Int))).setCell (p := ⟨wb + 1, 1, none⟩) (.inl (by simp)) (.slice a2 n2 c2)
    have hS1 := keep7 hS0 x5 (by simp) (by simp; omega)
    refine hK.out _ _ (fun _ => hS1) ?_; clear hK K
    try simp only [Act.put, List.getElem_toArray, List.getElem_cons_zero, List.getElem_cons_succ, List.setIfInBounds_toArray, List.set_cons_zero, List.set_cons_succ]
    clear hS0
    have hS0 := hS1; clear hS1
    refine HeldBut.take (i := 11) (v := ?_) rfl (by kernel_rfl) (by kernel_rfl) (by kernel_rfl) (by kernel_rfl) (fun _ _ _ h => h) (Or.inl ⟨by kernel_rfl, ?_⟩) hS0 ?_; rotate_left 1; (focus (intro u hu; (try dsimp only at hu); go_simp; try with_reducible rfl))
    try simp only [Act.put, List.getElem_toArray, List.getElem_cons_zero, List.getElem_cons_succ, List.setIfInBounds_toArray, List.set_cons_zero, List.set_cons_succ]
    refine HeldBut.take (i := 12) (v := ?_) rfl (by kernel_rfl) (by kernel_rfl) (by kernel_rfl) (by kernel_rfl) (fun _ _ _ h => h) (Or.inl ⟨by kernel_rfl, ?_⟩) hS0 ?_; rotate_left 1; (focus (intro u hu; (try dsimp only at hu); go_simp; try with_reducible rfl))
    try simp only [Act.put, List.getElem_toArray, List.getElem_cons_zero, List.getElem_cons_succ, List.setIfInBounds_toArray, List.set_cons_zero, List.set_cons_succ]
    refine HeldBut.done (by kernel_rfl) ?_ _
    go_wp2_with (fail)
    refine ret_cell_tmp2 Try.results27 rfl ((b52.set 0 (.int .u64 ((addM ⟨s, l⟩ p).n.s : Int))).set 1 (.slice a2 n2 c2)) Try.underlying25 rfl net_info rfl ⟨_, rs2, ⟨_, _, _, rfl⟩, rfl, (hO2.other b52 (by decide) (by decide) x5).mono (by rw [HWB.out]; have := hSZ.out; omega), ?_⟩
    exact (hE.trans hX2).trans' x5 (fun i hi => .inr (by have := HWB.out; simp at hi; omega))
  · have hfl : fnd l k = l.length := by have := fnd_le l k; omega
    have hT : twinM ⟨s, l⟩ k = { e := 4 } := by unfold twinM; exact atM_none hfl
    rw [hT]
    rw [if_neg hi] at fd
    clear hi hfl hT hP hPw
    go_enter Try.func27, Try.ntmps27
    go_upto_region 1 with (fail)
    generalize ((w.alloc (.cells #[.int .u64 (s : Int), .slice a l.length c] 25)).alloc (.cells #[.int .u64 0, .slice none 0 0] 25)) = W at *
    generalize hwb : w.heap.size = wb at *
    have HWB := Lib.hid hwb
    clear hwb
    go_wp2_with (go_at_call 57; (with_reducible refine fd.mono ?_); rintro e w1 ⟨rfl, x1⟩; have b5 := b5.ext x1 (by simp); obtain ⟨r0, r1⟩ := b5.c2; have rf := b5.frozen)
    have x5 := ((Ext.refl [wb + 1] w1).setCell (p := ⟨wb + 1, 0, none⟩) (.inl (by simp)) (.int .u64 0)).setCell (p := ⟨wb + 1, 1, none⟩) (.inl (by simp)) (.slice none 0 0)
    refine ret_cell_tmp2 Try.results27 rfl ((b5.set 0 (.int .u64 0)).set 1 (.slice none 0 0)) Try.underlying25 rfl net_info rfl ⟨_, [], ⟨_, _, _, rfl⟩, rfl, OPs.nil _ _, ?_⟩
    exact (hE.trans x1).trans' x5 (fun i hi => .inr (by have := HWB.out; simp at hi; omega))
end Go.Proofs.Ytpdfmeaemlgniaa
