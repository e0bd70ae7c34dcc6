
/-
  The document's answers: Come.
-/
import Derived.Test.YtpdfmeaemlgniaaNetRefA
import Derived.Test.YtpdfmeaemlgniaaNetS
namespace Go.Proofs.Ytpdfmeaemlgniaa
open Go.RowKit
open Go.Lib hiding intOf
set_option linter.unusedVariables false
set_option linter.unusedSimpArgs false
def AnsQ (w : World) (T : Told) : Ending → World → Prop := fun e w' => ∃ v' r, (∃ a' n' c', v' = .slice a' n' c') ∧ e = .returned (.tuple #[NV T.n.s v', PV r.num r.fr r.to r.b r.sp, .int .i64 T.e]) ∧ Qs w.heap.size w' v' T.n.ps ∧ OIs w.heap.size w' r T.p ∧ Ext [] w w'
set_option maxRecDepth 100000 in
set_option maxHeartbeats 4000000 in
theorem RefCome_any (w : World) (s k : Nat) (v : Value) (l : List Par) (hP : Ps w v l) (hll : l.length ≤ 20000) (hlb : ∀ q ∈ l, q.bs.length ≤ 100000) :
    Calls Try.prog 41 #[NV s v, .int .u64 (k : Int)] w (AnsQ w (comeM ⟨s, l⟩ k)) := by
  obtain ⟨a, c, rfl⟩ := hP.shape
  have e1 := (Ext.refl [] w).alloc (.cells #[.int .u64 (s : Int), .slice a l.length c] 25)
  have e2 := (Ext.refl [] (w.alloc (.cells #[.int .u64 (s : Int), .slice a l.length c] 25))).alloc (.cells #[.int .u64 0, .slice none 0 0] 25)
  have e3 := (Ext.refl [] ((w.alloc (.cells #[.int .u64 (s : Int), .slice a l.length c] 25)).alloc (.cells #[.int .u64 0, .slice none 0 0] 25))).alloc (.cells #[.int .u64 0, .int .i64 0, .int .i64 0, .slice none 0 0, .bool false] 33)
  have b1 := (Blk.new w [.int .u64 (s : Int), .slice a l.length c] 25).ext (e2.trans e3) (by simp)
  have b5 := (Blk.new (w.alloc (.cells #[.int .u64 (s : Int), .slice a l.length c] 25)) [.int .u64 0, .slice none 0 0] 25).ext e3 (by simp)
  have b6 := Blk.new ((w.alloc (.cells #[.int .u64 (s : Int), .slice a l.length c] 25)).alloc (.cells #[.int .u64 0, .slice none 0 0] 25)) [.int .u64 0, .int .i64 0, .int .i64 0, .slice none 0 0, .bool false] 33
  have hE := (e1.trans e2).trans e3
  simp only [World.size_alloc] at b5 b6
  have hP := hP.ext hE
  have hsz : (((w.alloc (.cells #[.int .u64 (s : Int), .slice a l.length c] 25)).alloc (.cells #[.int .u64 0, .slice none 0 0] 25)).alloc (.cells #[.int .u64 0, .int .i64 0, .int .i64 0, .slice none 0 0, .bool false] 33)).heap.size = w.heap.size + 3 := by simp
  have hSZ := Lib.hid hsz
  clear e1 e2 e3 hsz
  have fd := Find_any (((w.alloc (.cells #[.int .u64 (s : Int), .slice a l.length c] 25)).alloc (.cells #[.int .u64 0, .slice none 0 0] 25)).alloc (.cells #[.int .u64 0, .int .i64 0, .int .i64 0, .slice none 0 0, .bool false] 33)) s k _ l hP (by omega)
  have cp := fun w' (x : Ext [] (((w.alloc (.cells #[.int .u64 (s : Int), .slice a l.length c] 25)).alloc (.cells #[.int .u64 0, .slice none 0 0] 25)).alloc (.cells #[.int .u64 0, .int .i64 0, .int .i64 0, .slice none 0 0, .bool false] 33)) w') => Copy_any w' s _ l (hP.ext x) (by omega) hlb
  obtain ⟨n0, n1⟩ := b1.c2
  unfold findR at fd
  by_cases hi : fnd l k < l.length
  · rw [if_pos hi] at fd
    obtain ⟨p, hp⟩ : ∃ p, l[fnd l k]? = some p := ⟨_, List.getElem?_eq_getElem hi⟩
    have hT : comeM ⟨s, l⟩ k = { n := ⟨s, l.eraseIdx (fnd l k)⟩, p := p } := atM_some rfl hp
    rw [hT]
    generalize fnd l k = i at *
    clear hP hT
    go_enter Try.func41, Try.ntmps41
    go_upto_region 1 with (fail)
    generalize (((w.alloc (.cells #[.int .u64 (s : Int), .slice a l.length c] 25)).alloc (.cells #[.int .u64 0, .slice none 0 0] 25)).alloc (.cells #[.int .u64 0, .int .i64 0, .int .i64 0, .slice none 0 0, .bool false] 33)) = W at *
    generalize hwb : w.heap.size = wb at *
    have HWB := Lib.hid hwb
    clear hwb
    have hil' : decide ((i : Int) < 0) = false := by simp
    have hil2 : ¬ ((i : Int) < 0) := by omega
    go_upto_region 4 with (go_at_call 57; (with_reducible refine fd.mono ?_); rintro e w1 ⟨rfl, x1⟩; have n0 := cells_ext x1 n0; have n1 := cells_ext x1 n1; have b1 := b1.ext x1 (by simp); have b5 := b5.ext x1 (by simp); have b6 := b6.ext x1 (by simp))
    have nf := b1.frozen
    go_upto_region 5 with (go_at_call 15; (with_reducible refine (cp _ x1).mono ?_); rintro e w2 ⟨v2, rs2, ⟨a2, m2, c2, rfl⟩, rfl, hO2, x2⟩; have b1 := b1.ext x2 (by simp); have b5 := b5.ext x2 (by simp); have b6 := b6.ext x2 (by simp); have nf := b1.frozen; obtain ⟨n0, n1⟩ := b1.c2)
    obtain ⟨a2', c2', e2⟩ := hO2.shape
    simp only [Value.slice.injEq] at e2
    obtain ⟨rfl, rfl, rfl⟩ := e2
    have x4 := ((Ext.refl [wb] w2).setCell (p := ⟨wb, 0, none⟩) (.inl (by simp)) (.int .u64 (s : Int))).setCell (p := ⟨wb, 1, none⟩) (.inl (by simp)) (.slice a2 l.length c2)
    have c1' := (b1.set 0 (.int .u64 (s : Int))).set 1 (.slice a2 l.length c2)
    simp only [List.set_cons_zero, List.set_cons_succ] at c1'
    have c5' := b5.ext x4 (by simp)
    have c6' := b6.ext x4 (by simp; omega)
    have hO4 := hO2.other b1 (by decide) (by decide) x4
    have hA1 := x1.size
    have hX4 := (hE.trans (x1.trans x2)).trans' x4 (fun i hi => .inr (by have := HWB.out; simp at hi; omega))
    clear b1 b5 b6 x4 hO2 n0 n1 nf x2 fd cp
    generalize (w2.setCell ⟨wb, 0, none⟩ (.int .u64 (s : Int))).setCell ⟨wb, 1, none⟩ (.slice a2 l.length c2) = W4 at *
    have hrl := hO4.all.1
    have hB4 := own_blk hO4.own
    rw [hrl] at hB4
    rcases hB4 with ⟨h, h0⟩ | ⟨g, cap, rest, h, hg, hB, hn, hc, hlen⟩
    · omega
    · simp only [Value.slice.injEq] at h
      obtain ⟨rfl, -, rfl⟩ := h
      have hr : rs2[i]? = some (rs2[i]'(by omega)) := List.getElem?_eq_getElem (by omega)
      generalize rs2[i]'(by omega) = r at *
      have hI := hO4.all.2 i r p hr hp
      obtain ⟨ra, rc, rfl⟩ := (hI.pis (X := []) (by simp)).shape
      obtain ⟨p0, p1, p2, p3, p4⟩ := blk_prow hB i _ hr
      dsimp only at p0 p1 p2 p3 p4
      obtain ⟨n0, n1⟩ := c1'.c2
      have hi0 : (i : Int) < (l.length : Int) := by omega
      go_upto_region 6 with (fail)
      have x5 := (Ext.refl [] W4).alloc (.cells #[.int .u64 (p.num : Int), .int .i64 p.fr, .int .i64 p.to, .slice ra p.bs.length rc, .bool p.sp] 33)
      have d8 := Blk.new W4 [.int .u64 (p.num : Int), .int .i64 p.fr, .int .i64 p.to, .slice ra p.bs.length rc, .bool p.sp] 33
      have hO5 := hO4.ext x5
      have hI5 := hI.keep x5 (fun _ _ => by simp)
      have hA4 := hX4.size
      have hpbl := c6'.lt
      generalize W4.alloc (.cells #[.int .u64 (p.num : Int), .int .i64 p.fr, .int .i64 p.to, .slice ra p.bs.length rc, .bool p.sp] 33) = W5 at *
      generalize W4.heap.size = pb at *
      have xd := x5.trans (Ext.refl [] W5).drew
      have c1' := c1'.ext xd (by simp)
      have c5' := c5'.ext xd (by simp)
      have c6' := c6'.ext xd (by simp)
      have d8 := d8.ext (Ext.refl [] W5).drew (by simp)
      have hO5 := hO5.ext (Ext.refl [] W5).drew
      have hI5 := hI5.keep (Ext.refl [] W5).drew (fun _ _ => by simp)
      have hX5 := hX4.trans xd
      have hpt : Try.prog.elem 23 = 33 := by kernel_rfl
      have hszp : ∀ U, (sizeOf 33).run Try.prog U = .ok 5 U := fun U => Try.sizeOf33 U
      have sA : ∀ U, (Instr.slice 23 (.slice (some ⟨g, 0, none⟩) l.length c2) none (some (.int .i64 (i : Int))) (some (.int .i64 (i : Int)))).run Try.prog U = .ok (.slice (some ⟨g, 0, none⟩) i i) U := fun U => by
        rw [run_slice_hm U 23 _ l.length c2 (by kernel_rfl) .i64 .i64 (i : Int) (i : Int) (by omega) (by omega) (by omega), hpt, hszp]
        simp only [Result.andThen_ok, sliced, Nat.zero_mul, Option.map_some, add_off, Nat.add_zero, ite_self, Nat.sub_zero, Int.toNat_natCast]
      obtain ⟨z9, hz9⟩ : ∃ z, sliced (some ⟨g, 0, none⟩) (i + 1) l.length c2 5 = z := ⟨_, rfl⟩
      have sB : ∀ U, (Instr.slice 23 (.slice (some ⟨g, 0, none⟩) l.length c2) (some (.int .i64 ((i : Int) + 1))) none none).run Try.prog U = .ok z9 U := fun U => by
        rw [run_slice_l U 23 _ l.length c2 (by kernel_rfl) .i64 ((i : Int) + 1) (by omega) (by omega), hpt, hszp]
        simp only [Result.andThen_ok]
        rw [← hz9, show ((i : Int) + 1).toNat = i + 1 by omega]
      have hwr : IntKind.i64.wrap ((i : Int) + 1) = (i : Int) + 1 := by rw [IntKind.wrap_i64]; omega
      obtain ⟨v9, W9, hr9, ⟨a9, m9, e9, rfl⟩, x9, hQ9⟩ := cut_out 23 hO5 hi hll
      rw [hz9] at hr9
      have HR := Lib.hid hr9
      have hS0 : (W5.drew.cell? ⟨wb, 0, none⟩ = some (.int .u64 (s : Int)) ∧ W5.drew.cell? ⟨wb, 1, none⟩ = some (.slice (some ⟨g, 0, none⟩) l.length c2)) := c1'.c2
      refine region_but (fun u => (u.cell? ⟨wb, 0, none⟩ = some (.int .u64 (s : Int)) ∧ u.cell? ⟨wb, 1, none⟩ = some (.slice (some ⟨g, 0, none⟩) l.length c2))) [12] 13 rfl (by kernel_rfl) ?_
      clear p0 p1 p2 p3 p4 n0 n1 hz9 hr9 hB x5 xd
      generalize W5.drew = U0 at *
      refine HeldBut.take (i := 0) (v := ?_) rfl (by kernel_rfl) (by kernel_rfl) (by kernel_rfl) (by kernel_rfl) (fun _ _ _ h => h) (Or.inl ⟨by kernel_rfl, ?_⟩) hS0 ?_; rotate_left 1; (focus (intro u hu; (try dsimp only at hu); go_simp; try with_reducible rfl)); try simp only [Act.put, List.getElem_toArray, List.getElem_cons_zero, List.getElem_cons_succ, List.setIfInBounds_toArray, List.set_cons_zero, List.set_cons_succ]
      refine HeldBut.take (i := 1) (v := ?_) rfl (by kernel_rfl) (by kernel_rfl) (by kernel_rfl) (by kernel_rfl) (fun _ _ _ h => h) (Or.inl ⟨by kernel_rfl, ?_⟩) hS0 ?_; rotate_left 1; (focus (intro u hu; (try dsimp only at hu); go_simp; try with_reducible rfl)); try simp only [Act.put, List.getElem_toArray, List.getElem_cons_zero, List.getElem_cons_succ, List.setIfInBounds_toArray, List.set_cons_zero, List.set_cons_succ]
      refine HeldBut.take (i := 2) (v := ?_) rfl (by kernel_rfl) (by kernel_rfl) (by kernel_rfl) (by kernel_rfl) (fun _ _ _ h => h) (Or.inl ⟨by kernel_rfl, ?_⟩) hS0 ?_; rotate_left 1; (focus (intro u hu; (try dsimp only at hu); go_simp; try with_reducible rfl)); try simp only [Act.put, List.getElem_toArray, List.getElem_cons_zero, List.getElem_cons_succ, List.setIfInBounds_toArray, List.set_cons_zero, List.set_cons_succ]
      refine HeldBut.take (i := 3) (v := ?_) rfl (by kernel_rfl) (by kernel_rfl) (by kernel_rfl) (by kernel_rfl) (fun _ _ _ h => h) (Or.inl ⟨by kernel_rfl, ?_⟩) hS0 ?_; rotate_left 1; (focus (intro u hu; (try dsimp only at hu); go_simp; try with_reducible rfl)); try simp only [Act.put, List.getElem_toArray, List.getElem_cons_zero, List.getElem_cons_succ, List.setIfInBounds_toArray, List.set_cons_zero, List.set_cons_succ]
      refine HeldBut.take (i := 4) (v := ?_) rfl (by kernel_rfl) (by kernel_rfl) (by kernel_rfl) (by kernel_rfl) (fun _ _ _ h => h) (Or.inl ⟨by kernel_rfl, ?_⟩) hS0 ?_; rotate_left 1; (focus (intro u hu; (try dsimp only at hu); go_simp; try with_reducible rfl)); try simp only [Act.put, List.getElem_toArray, List.getElem_cons_zero, List.getElem_cons_succ, List.setIfInBounds_toArray, List.set_cons_zero, List.set_cons_succ]
      refine HeldBut.take (i := 5) (v := ?_) rfl (by kernel_rfl) (by kernel_rfl) (by kernel_rfl) (by kernel_rfl) (fun _ _ _ h => h) (Or.inl ⟨by kernel_rfl, ?_⟩) hS0 ?_; rotate_left 1; (focus (intro u hu; (try dsimp only at hu); go_simp; try with_reducible rfl)); try simp only [Act.put, List.getElem_toArray, List.getElem_cons_zero, List.getElem_cons_succ, List.setIfInBounds_toArray, List.set_cons_zero, List.set_cons_succ]
      refine HeldBut.take (i := 6) (v := ?_) rfl (by kernel_rfl) (by kernel_rfl) (by kernel_rfl) (by kernel_rfl) (fun _ _ _ h => h) (Or.inl ⟨by kernel_rfl, ?_⟩) hS0 ?_; rotate_left 1; (focus (intro u hu; (try dsimp only at hu); go_simp; try with_reducible rfl)); try simp only [Act.put, List.getElem_toArray, List.getElem_cons_zero, List.getElem_cons_succ, List.setIfInBounds_toArray, List.set_cons_zero, List.set_cons_succ]
      refine HeldBut.take (i := 7) (v := ?_) rfl (by kernel_rfl) (by kernel_rfl) (by kernel_rfl) (by kernel_rfl) (fun _ _ _ h => h) (Or.inl ⟨by kernel_rfl, ?_⟩) hS0 ?_; rotate_left 1; (focus (intro u hu; (try dsimp only at hu); go_simp; try with_reducible rfl)); try simp only [Act.put, List.getElem_toArray, List.getElem_cons_zero, List.getElem_cons_succ, List.setIfInBounds_toArray, List.set_cons_zero, List.set_cons_succ]
      refine HeldBut.take (i := 8) (v := ?_) rfl (by kernel_rfl) (by kernel_rfl) (by kernel_rfl) (by kernel_rfl) (fun _ _ _ h => h) (Or.inl ⟨by kernel_rfl, ?_⟩) hS0 ?_; rotate_left 1; (focus (intro u hu; (try dsimp only at hu); go_simp; try with_reducible rfl)); try simp only [Act.put, List.getElem_toArray, List.getElem_cons_zero, List.getElem_cons_succ, List.setIfInBounds_toArray, List.set_cons_zero, List.set_cons_succ]
      refine HeldBut.take (i := 9) (v := ?_) rfl (by kernel_rfl) (by kernel_rfl) (by kernel_rfl) (by kernel_rfl) (fun _ _ _ h => h) (Or.inl ⟨by kernel_rfl, ?_⟩) hS0 ?_; rotate_left 1; (focus (intro u hu; (try dsimp only at hu); go_simp; try with_reducible rfl)); try simp only [Act.put, List.getElem_toArray, List.getElem_cons_zero, List.getElem_cons_succ, List.setIfInBounds_toArray, List.set_cons_zero, List.set_cons_succ]
      refine HeldBut.one (i := 10) (by kernel_rfl) ?_
      refine HeldBut.step (i := 10) rfl (fun K hK => ?_)
      refine step_append_run (by rfl) (.tmp 27) (.tmp 32) 23 23 (by rfl) _ _ (by rfl) (by rfl) _ _ HR.out ?_
      have hS1 : (W9.cell? ⟨wb, 0, none⟩ = some (.int .u64 (s : Int)) ∧ W9.cell? ⟨wb, 1, none⟩ = some (.slice (some ⟨g, 0, none⟩) l.length c2)) := ⟨cells_ext x9 hS0.1, cells_ext x9 hS0.2⟩
      refine hK.out _ _ (fun _ => hS1) ?_; clear hK K
      try simp only [Act.put, List.getElem_toArray, List.getElem_cons_zero, List.getElem_cons_succ, List.setIfInBounds_toArray, List.set_cons_zero, List.set_cons_succ]
      clear hS0
      have hS0 := hS1; clear hS1
      have c1' := c1'.ext x9 (by simp)
      have c5' := c5'.ext x9 (by simp)
      have c6' := c6'.ext x9 (by simp)
      have d8 := d8.ext x9 (by simp)
      have hI9 := hI5.keep x9 (fun _ _ => by simp)
      have hX9 := hX5.trans x9
      refine HeldBut.take (i := 11) (v := ?_) rfl (by kernel_rfl) (by kernel_rfl) (by kernel_rfl) (by kernel_rfl) (fun _ _ _ h => h) (Or.inl ⟨by kernel_rfl, ?_⟩) hS0 ?_; rotate_left 1; (focus (intro u hu; (try dsimp only at hu); go_simp; try with_reducible rfl)); try simp only [Act.put, List.getElem_toArray, List.getElem_cons_zero, List.getElem_cons_succ, List.setIfInBounds_toArray, List.set_cons_zero, List.set_cons_succ]
      have nf := c1'.frozen
      refine HeldBut.one (i := 12) (by kernel_rfl) ?_
      refine HeldBut.step (i := 12) rfl (fun K hK => ?_)
      try simp only [List.getElem_toArray, List.getElem_cons_zero, List.getElem_cons_succ]
      go_simp
      have y9 := (Ext.refl [wb] W9).setCell (p := ⟨wb, 1, none⟩) (.inl (by simp)) (.slice a9 m9 e9)
      have f1 := c1'.set 1 (.slice a9 m9 e9)
      simp only [List.set_cons_zero, List.set_cons_succ] at f1
      have f5 := c5'.ext y9 (by simp)
      have f6 := c6'.ext y9 (by simp; omega)
      have f8 := d8.ext y9 (by simp; omega)
      have hQ10 := hQ9.keep y9 (fun k hk => .inl (by have := HWB.out; have := hSZ.out; have := hE.size; simp at hk; omega))
      have hI10 := hI9.keep y9 (own_ne hI9.2.2.2.2 c1' (by decide))
      have hX10 := hX9.trans' y9 (fun i hi => .inr (by have := HWB.out; simp at hi; omega))
      refine hK.out _ _ (fun h => (h (by simp)).elim) ?_; clear hK K
      try simp only [Act.put, List.getElem_toArray, List.getElem_cons_zero, List.getElem_cons_succ, List.setIfInBounds_toArray, List.set_cons_zero, List.set_cons_succ]
      refine HeldBut.done (by kernel_rfl) ?_ _
      generalize W9.setCell ⟨wb, 1, none⟩ (.slice a9 m9 e9) = V at *
      clear y9 hS0 c1' c5' c6' d8 hQ9 hI9 hX9 hX5 hI5 hO5 nf HR x9 sA sB
      obtain ⟨d0, d1⟩ := f1.c2
      obtain ⟨r0, r1⟩ := f5.c2
      have rf := f5.frozen
      obtain ⟨p0, p1, p2, p3, p4⟩ := f6.c5
      have pf := f6.frozen
      obtain ⟨q0, q1, q2, q3, q4⟩ := f8.c5
      go_upto_region 7 with (fail)
      go_region
      have x3 := ((Ext.refl [wb + 1] V).setCell (p := ⟨wb + 1, 0, none⟩) (.inl (by simp)) (.int .u64 (s : Int))).setCell (p := ⟨wb + 1, 1, none⟩) (.inl (by simp)) (.slice a9 m9 e9)
      have hB3 := (f5.set 0 (.int .u64 (s : Int))).set 1 (.slice a9 m9 e9)
      simp only [List.set_cons_zero, List.set_cons_succ] at hB3
      have b63 := f6.ext x3 (by simp)
      have hVs : wb + 1 + 1 < w1.heap.size := by have := HWB.out; have := hSZ.out; omega
      have hQ3 := hQ10.keep x3 (fun k hk => .inl (by simp at hk; omega))
      have hI3 := hI10.keep x3 (own_ne hI10.2.2.2.2 f5 (by decide))
      have hX3 := hX10.trans' x3 (fun i hi => .inr (by have := HWB.out; simp at hi; omega))
      generalize (V.setCell ⟨wb + 1, 0, none⟩ (.int .u64 (s : Int))).setCell ⟨wb + 1, 1, none⟩ (.slice a9 m9 e9) = W3 at *
      have x4 := (((((Ext.refl [wb + 1 + 1] W3).setCell (p := ⟨wb + 1 + 1, 0, none⟩) (.inl (by simp)) (.int .u64 (p.num : Int))).setCell (p := ⟨wb + 1 + 1, 1, none⟩) (.inl (by simp)) (.int .i64 p.fr)).setCell (p := ⟨wb + 1 + 1, 2, none⟩) (.inl (by simp)) (.int .i64 p.to)).setCell (p := ⟨wb + 1 + 1, 3, none⟩) (.inl (by simp)) (.slice ra p.bs.length rc)).setCell (p := ⟨wb + 1 + 1, 4, none⟩) (.inl (by simp)) (.bool p.sp)
      have hB4 := ((((b63.set 0 (.int .u64 (p.num : Int))).set 1 (.int .i64 p.fr)).set 2 (.int .i64 p.to)).set 3 (.slice ra p.bs.length rc)).set 4 (.bool p.sp)
      simp only [List.set_cons_zero, List.set_cons_succ] at hB4
      have hN4 := hB3.ext x4 (by simp)
      have hQ4 := hQ3.keep x4 (fun k hk => .inl (by simp at hk; omega))
      have hI4 := hI3.keep x4 (own_ne hI3.2.2.2.2 b63 (by decide))
      have hX4 := hX3.trans' x4 (fun i hi => .inr (by have := HWB.out; simp at hi; omega))
      have hW1 : wb ≤ w1.heap.size := by omega
      have HH := Lib.hid (And.intro hB4 (And.intro hN4 (And.intro hQ4 (And.intro hI4 (And.intro hX4 hW1)))))
      clear hB4 hN4 hQ4 hI4 hX4 x3 x4 hQ3 hI3 hX3 b63 hB3
      go_wp2_with (fail)
      refine ret_cell_cell_tmp Try.results41 rfl (Blk.drew HH.out.2.1) Try.underlying25 rfl net_info rfl (Blk.drew HH.out.1) Try.underlying33 rfl par_info rfl ⟨_, ⟨p.num, p.fr, p.to, .slice ra p.bs.length rc, p.sp⟩, ⟨_, _, _, rfl⟩, rfl, ?_, ?_, HH.out.2.2.2.2.1.drew⟩
      · rw [HWB.out]
        exact (HH.out.2.2.1.keep ((Ext.refl [] _).drew) (by simp)).mono HH.out.2.2.2.2.2
      · rw [HWB.out]
        exact (HH.out.2.2.2.1.keep ((Ext.refl [] _).drew) (fun _ _ => by simp)).mono HH.out.2.2.2.2.2
  · have hfl : fnd l k = l.length := by have := fnd_le l k; omega
    have hT : comeM ⟨s, l⟩ k = { e := 4 } := atM_none hfl
    rw [hT]
    rw [if_neg hi] at fd
    clear hi hfl hT hP cp
    go_enter Try.func41, Try.ntmps41
    go_upto_region 1 with (fail)
    generalize (((w.alloc (.cells #[.int .u64 (s : Int), .slice a l.length c] 25)).alloc (.cells #[.int .u64 0, .slice none 0 0] 25)).alloc (.cells #[.int .u64 0, .int .i64 0, .int .i64 0, .slice none 0 0, .bool false] 33)) = W at *
    generalize hwb : w.heap.size = wb at *
    have HWB := Lib.hid hwb
    clear hwb
    go_wp2_with (go_at_call 57; (with_reducible refine fd.mono ?_); rintro e w1 ⟨rfl, x1⟩; have b5 := b5.ext x1 (by simp); have b6 := b6.ext x1 (by simp); obtain ⟨r0, r1⟩ := b5.c2; have rf := b5.frozen; obtain ⟨p0, p1, p2, p3, p4⟩ := b6.c5; have pf := b6.frozen)
    have x3 := ((Ext.refl [wb + 1] w1).setCell (p := ⟨wb + 1, 0, none⟩) (.inl (by simp)) (.int .u64 0)).setCell (p := ⟨wb + 1, 1, none⟩) (.inl (by simp)) (.slice none 0 0)
    have hB3 := (b5.set 0 (.int .u64 0)).set 1 (.slice none 0 0)
    simp only [List.set_cons_zero, List.set_cons_succ] at hB3
    have b63 := b6.ext x3 (by simp)
    generalize (w1.setCell ⟨wb + 1, 0, none⟩ (.int .u64 0)).setCell ⟨wb + 1, 1, none⟩ (.slice none 0 0) = W3 at *
    have x4 := (((((Ext.refl [wb + 1 + 1] W3).setCell (p := ⟨wb + 1 + 1, 0, none⟩) (.inl (by simp)) (.int .u64 0)).setCell (p := ⟨wb + 1 + 1, 1, none⟩) (.inl (by simp)) (.int .i64 0)).setCell (p := ⟨wb + 1 + 1, 2, none⟩) (.inl (by simp)) (.int .i64 0)).setCell (p := ⟨wb + 1 + 1, 3, none⟩) (.inl (by simp)) (.slice none 0 0)).setCell (p := ⟨wb + 1 + 1, 4, none⟩) (.inl (by simp)) (.bool false)
    have hB4 := ((((b63.set 0 (.int .u64 0)).set 1 (.int .i64 0)).set 2 (.int .i64 0)).set 3 (.slice none 0 0)).set 4 (.bool false)
    simp only [List.set_cons_zero, List.set_cons_succ] at hB4
    refine ret_cell_cell_tmp Try.results41 rfl (hB3.ext x4 (by simp)) Try.underlying25 rfl net_info rfl hB4 Try.underlying33 rfl par_info rfl ⟨.slice none 0 0, zRaw, ⟨_, _, _, rfl⟩, rfl, Qs.nil _ _, zRaw_is _ _, ?_⟩
    exact ((hE.trans x1).trans' x3 (fun i hi => .inr (by have := HWB.out; simp at hi; omega))).trans' x4 (fun i hi => .inr (by have := HWB.out; simp at hi; omega))
end Go.Proofs.Ytpdfmeaemlgniaa
