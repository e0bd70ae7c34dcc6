
/-
  Op.run, by the op's kind.
-/
import Derived.Test.YtpdfmeaemlgniaaNetOp
import Derived.Test.YtpdfmeaemlgniaaNetZ
import Derived.Test.YtpdfmeaemlgniaaNetO
import Derived.Test.YtpdfmeaemlgniaaHeld
namespace Go.Proofs.Ytpdfmeaemlgniaa
open Go.RowKit
open Go.Lib hiding intOf
set_option linter.unusedVariables false
set_option linter.unusedSimpArgs false
theorem told_info : (Try.prog.info? 36).map (·.size) = some 10 := by kernel_rfl
theorem Blk.c8 {w : World} {b : Nat} {e : TypeId} {x0 x1 x2 x3 x4 x5 x6 x7 : Value} (h : Blk w b e [x0, x1, x2, x3, x4, x5, x6, x7]) : w.cell? ⟨b, 0, none⟩ = some x0 ∧ w.cell? ⟨b, 1, none⟩ = some x1 ∧ w.cell? ⟨b, 2, none⟩ = some x2 ∧ w.cell? ⟨b, 3, none⟩ = some x3 ∧ w.cell? ⟨b, 4, none⟩ = some x4 ∧ w.cell? ⟨b, 5, none⟩ = some x5 ∧ w.cell? ⟨b, 6, none⟩ = some x6 ∧ w.cell? ⟨b, 7, none⟩ = some x7 := ⟨h.cell 0, h.cell 1, h.cell 2, h.cell 3, h.cell 4, h.cell 5, h.cell 6, h.cell 7⟩
theorem Blk.c10 {w : World} {b : Nat} {e : TypeId} {x0 x1 x2 x3 x4 x5 x6 x7 x8 x9 : Value} (h : Blk w b e [x0, x1, x2, x3, x4, x5, x6, x7, x8, x9]) : w.cell? ⟨b, 0, none⟩ = some x0 ∧ w.cell? ⟨b, 1, none⟩ = some x1 ∧ w.cell? ⟨b, 2, none⟩ = some x2 ∧ w.cell? ⟨b, 3, none⟩ = some x3 ∧ w.cell? ⟨b, 4, none⟩ = some x4 ∧ w.cell? ⟨b, 5, none⟩ = some x5 ∧ w.cell? ⟨b, 6, none⟩ = some x6 ∧ w.cell? ⟨b, 7, none⟩ = some x7 ∧ w.cell? ⟨b, 8, none⟩ = some x8 ∧ w.cell? ⟨b, 9, none⟩ = some x9 := ⟨h.cell 0, h.cell 1, h.cell 2, h.cell 3, h.cell 4, h.cell 5, h.cell 6, h.cell 7, h.cell 8, h.cell 9⟩
set_option maxRecDepth 100000 in
set_option maxHeartbeats 4000000 in
theorem run_lose (w : World) (o : OpR) (a : Option Addr) (c : Nat) (h : o.in64) (hk : o.knd = 4) (s : Nat) (v : Value) (l : List Par) (hP : Ps w v l) (hll : l.length ≤ 100000) :
    Calls Try.prog 11 #[OV o a c, NV s v] w fun e w' => ∃ v' rs', (∃ a' n' c', v' = .slice a' n' c') ∧ e = .returned (.agg #[.int .u64 ((ofM ⟨s, l⟩ (comeM ⟨s, l⟩ (o.num l))).n.s : Int), v', .int .u64 0, .int .u64 0, .int .i64 0, .int .i64 0, .slice none 0 0, .bool false, .int .i64 0, .int .i64 (ofM ⟨s, l⟩ (comeM ⟨s, l⟩ (o.num l))).e]) ∧ OPs w.heap.size w' v' (ofM ⟨s, l⟩ (comeM ⟨s, l⟩ (o.num l))).n.ps rs' ∧ Ext [] w w' := by
  obtain ⟨an, cn, rfl⟩ := hP.shape
  have x1 := (Ext.refl [] w).alloc (.cells #[.int .i64 o.kind, .int .i64 o.fr, .int .i64 o.tt, .int .i64 o.at_, .int .i64 o.place, .bool o.other, .int .u8 (o.by_.toNat : Int), .slice a o.bs.length c] 31)
  have x2 := (Ext.refl [] (w.alloc (.cells #[.int .i64 o.kind, .int .i64 o.fr, .int .i64 o.tt, .int .i64 o.at_, .int .i64 o.place, .bool o.other, .int .u8 (o.by_.toNat : Int), .slice a o.bs.length c] 31))).alloc (.cells #[.int .u64 (s : Int), .slice an l.length cn] 25)
  have x3 := (Ext.refl [] ((w.alloc (.cells #[.int .i64 o.kind, .int .i64 o.fr, .int .i64 o.tt, .int .i64 o.at_, .int .i64 o.place, .bool o.other, .int .u8 (o.by_.toNat : Int), .slice a o.bs.length c] 31)).alloc (.cells #[.int .u64 (s : Int), .slice an l.length cn] 25))).alloc (.cells #[.int .u64 0, .slice none 0 0, .int .u64 0, .int .u64 0, .int .i64 0, .int .i64 0, .slice none 0 0, .bool false, .int .i64 0, .int .i64 0] 36)
  have b1 := (Blk.new w [.int .i64 o.kind, .int .i64 o.fr, .int .i64 o.tt, .int .i64 o.at_, .int .i64 o.place, .bool o.other, .int .u8 (o.by_.toNat : Int), .slice a o.bs.length c] 31).ext (x2.trans x3) (by simp)
  have b2 := (Blk.new (w.alloc (.cells #[.int .i64 o.kind, .int .i64 o.fr, .int .i64 o.tt, .int .i64 o.at_, .int .i64 o.place, .bool o.other, .int .u8 (o.by_.toNat : Int), .slice a o.bs.length c] 31)) [.int .u64 (s : Int), .slice an l.length cn] 25).ext x3 (by simp)
  have b3 := Blk.new ((w.alloc (.cells #[.int .i64 o.kind, .int .i64 o.fr, .int .i64 o.tt, .int .i64 o.at_, .int .i64 o.place, .bool o.other, .int .u8 (o.by_.toNat : Int), .slice a o.bs.length c] 31)).alloc (.cells #[.int .u64 (s : Int), .slice an l.length cn] 25)) [.int .u64 0, .slice none 0 0, .int .u64 0, .int .u64 0, .int .i64 0, .int .i64 0, .slice none 0 0, .bool false, .int .i64 0, .int .i64 0] 36
  have hE := (x1.trans x2).trans x3
  simp only [World.size_alloc] at b2 b3
  have hP := hP.ext hE
  have kd := fun w' => kind_any w' o a c h
  rw [hk] at kd
  have nm := fun w' (x : Ext [] (((w.alloc (.cells #[.int .i64 o.kind, .int .i64 o.fr, .int .i64 o.tt, .int .i64 o.at_, .int .i64 o.place, .bool o.other, .int .u8 (o.by_.toNat : Int), .slice a o.bs.length c] 31)).alloc (.cells #[.int .u64 (s : Int), .slice an l.length cn] 25)).alloc (.cells #[.int .u64 0, .slice none 0 0, .int .u64 0, .int .u64 0, .int .i64 0, .int .i64 0, .slice none 0 0, .bool false, .int .i64 0, .int .i64 0] 36)) w') => num_any w' o a c h s _ l (hP.ext x) hll
  have ls := fun w' (x : Ext [] (((w.alloc (.cells #[.int .i64 o.kind, .int .i64 o.fr, .int .i64 o.tt, .int .i64 o.at_, .int .i64 o.place, .bool o.other, .int .u8 (o.by_.toNat : Int), .slice a o.bs.length c] 31)).alloc (.cells #[.int .u64 (s : Int), .slice an l.length cn] 25)).alloc (.cells #[.int .u64 0, .slice none 0 0, .int .u64 0, .int .u64 0, .int .i64 0, .int .i64 0, .slice none 0 0, .bool false, .int .i64 0, .int .i64 0] 36)) w') => Lose_any w' s (o.num l) _ l (hP.ext x)
  generalize ofM ⟨s, l⟩ (comeM ⟨s, l⟩ (o.num l)) = T at *
  generalize o.num l = num at *
  have hsz : (((w.alloc (.cells #[.int .i64 o.kind, .int .i64 o.fr, .int .i64 o.tt, .int .i64 o.at_, .int .i64 o.place, .bool o.other, .int .u8 (o.by_.toNat : Int), .slice a o.bs.length c] 31)).alloc (.cells #[.int .u64 (s : Int), .slice an l.length cn] 25)).alloc (.cells #[.int .u64 0, .slice none 0 0, .int .u64 0, .int .u64 0, .int .i64 0, .int .i64 0, .slice none 0 0, .bool false, .int .i64 0, .int .i64 0] 36)).heap.size = w.heap.size + 3 := by simp
  have HSZ := Lib.hid hsz
  clear x1 x2 x3 h hk hP hsz
  obtain ⟨k0, k1, k2, k3, k4, k5, k6, k7⟩ := b1.c8
  obtain ⟨n0, n1⟩ := b2.c2
  go_enter Try.func11, Try.ntmps11
  go_upto_region 1 with (fail)
  generalize (((w.alloc (.cells #[.int .i64 o.kind, .int .i64 o.fr, .int .i64 o.tt, .int .i64 o.at_, .int .i64 o.place, .bool o.other, .int .u8 (o.by_.toNat : Int), .slice a o.bs.length c] 31)).alloc (.cells #[.int .u64 (s : Int), .slice an l.length cn] 25)).alloc (.cells #[.int .u64 0, .slice none 0 0, .int .u64 0, .int .u64 0, .int .i64 0, .int .i64 0, .slice none 0 0, .bool false, .int .i64 0, .int .i64 0] 36)) = W at *
  generalize hwb : w.heap.size = wb at *
  have HWB := Lib.hid hwb
  clear hwb
  go_upto_region 16 with (go_at_call 29; (with_reducible refine (kd _).mono ?_); rintro e w1 ⟨rfl, x1⟩)
  have xd := x1.trans (Ext.refl [] w1).drew
  have c1' := b1.ext xd (by simp)
  have c2' := b2.ext xd (by simp)
  have c3' := b3.ext xd (by simp)
  have hS0 : ((w1.drew.cell? ⟨wb, 0, none⟩ = some (.int .i64 o.kind) ∧ w1.drew.cell? ⟨wb, 1, none⟩ = some (.int .i64 o.fr) ∧ w1.drew.cell? ⟨wb, 2, none⟩ = some (.int .i64 o.tt) ∧ w1.drew.cell? ⟨wb, 3, none⟩ = some (.int .i64 o.at_) ∧ w1.drew.cell? ⟨wb, 4, none⟩ = some (.int .i64 o.place) ∧ w1.drew.cell? ⟨wb, 5, none⟩ = some (.bool o.other) ∧ w1.drew.cell? ⟨wb, 6, none⟩ = some (.int .u8 (o.by_.toNat : Int)) ∧ w1.drew.cell? ⟨wb, 7, none⟩ = some (.slice a o.bs.length c)) ∧ (w1.drew.cell? ⟨wb + 1, 0, none⟩ = some (.int .u64 (s : Int)) ∧ w1.drew.cell? ⟨wb + 1, 1, none⟩ = some (.slice an l.length cn))) := ⟨c1'.c8, c2'.c2⟩
  refine region_but (fun u => ((u.cell? ⟨wb, 0, none⟩ = some (.int .i64 o.kind) ∧ u.cell? ⟨wb, 1, none⟩ = some (.int .i64 o.fr) ∧ u.cell? ⟨wb, 2, none⟩ = some (.int .i64 o.tt) ∧ u.cell? ⟨wb, 3, none⟩ = some (.int .i64 o.at_) ∧ u.cell? ⟨wb, 4, none⟩ = some (.int .i64 o.place) ∧ u.cell? ⟨wb, 5, none⟩ = some (.bool o.other) ∧ u.cell? ⟨wb, 6, none⟩ = some (.int .u8 (o.by_.toNat : Int)) ∧ u.cell? ⟨wb, 7, none⟩ = some (.slice a o.bs.length c)) ∧ (u.cell? ⟨wb + 1, 0, none⟩ = some (.int .u64 (s : Int)) ∧ u.cell? ⟨wb + 1, 1, none⟩ = some (.slice an l.length cn)))) [] 12 rfl (by kernel_rfl) ?_
  clear b1 b2 b3 k0 k1 k2 k3 k4 k5 k6 k7 n0 n1 x1
  generalize w1.drew = U0 at *
  refine HeldBut.take (i := 0) (v := ?_) rfl (by kernel_rfl) (by kernel_rfl) (by kernel_rfl) (by kernel_rfl) (fun _ _ _ h => h) (Or.inl ⟨by kernel_rfl, ?_⟩) hS0 ?_; rotate_left 1; (focus (intro u hu; (try dsimp only at hu); go_simp; try with_reducible rfl))
  try simp only [Act.put, List.getElem_toArray, List.getElem_cons_zero, List.getElem_cons_succ, List.setIfInBounds_toArray, List.set_cons_zero, List.set_cons_succ]
  refine HeldBut.take (i := 1) (v := ?_) rfl (by kernel_rfl) (by kernel_rfl) (by kernel_rfl) (by kernel_rfl) (fun _ _ _ h => h) (Or.inl ⟨by kernel_rfl, ?_⟩) hS0 ?_; rotate_left 1; (focus (intro u hu; (try dsimp only at hu); go_simp; try with_reducible rfl))
  try simp only [Act.put, List.getElem_toArray, List.getElem_cons_zero, List.getElem_cons_succ, List.setIfInBounds_toArray, List.set_cons_zero, List.set_cons_succ]
  refine HeldBut.take (i := 2) (v := ?_) rfl (by kernel_rfl) (by kernel_rfl) (by kernel_rfl) (by kernel_rfl) (fun _ _ _ h => h) (Or.inl ⟨by kernel_rfl, ?_⟩) hS0 ?_; rotate_left 1; (focus (intro u hu; (try dsimp only at hu); go_simp; try with_reducible rfl))
  try simp only [Act.put, List.getElem_toArray, List.getElem_cons_zero, List.getElem_cons_succ, List.setIfInBounds_toArray, List.set_cons_zero, List.set_cons_succ]
  refine HeldBut.one (i := 3) (by kernel_rfl) ?_
  refine HeldBut.step (i := 3) rfl (fun K hK => ?_)
  try simp only [List.getElem_toArray, List.getElem_cons_zero, List.getElem_cons_succ]
  go_simp
  go_at_call 28
  (with_reducible refine (nm _ xd).mono ?_)
  rintro e w2 ⟨rfl, x2⟩
  dsimp only
  have b1 := c1'.ext x2 (by simp)
  have b2 := c2'.ext x2 (by simp)
  have b3 := c3'.ext x2 (by simp)
  have xe := xd.trans x2
  refine hK.out _ _ (fun _ => ⟨b1.c8, b2.c2⟩) ?_; clear hK K
  try simp only [Act.put, List.getElem_toArray, List.getElem_cons_zero, List.getElem_cons_succ, List.setIfInBounds_toArray, List.set_cons_zero, List.set_cons_succ]
  clear hS0 x2 xd c1' c2' c3'
  have hS0 : ((w2.cell? ⟨wb, 0, none⟩ = some (.int .i64 o.kind) ∧ w2.cell? ⟨wb, 1, none⟩ = some (.int .i64 o.fr) ∧ w2.cell? ⟨wb, 2, none⟩ = some (.int .i64 o.tt) ∧ w2.cell? ⟨wb, 3, none⟩ = some (.int .i64 o.at_) ∧ w2.cell? ⟨wb, 4, none⟩ = some (.int .i64 o.place) ∧ w2.cell? ⟨wb, 5, none⟩ = some (.bool o.other) ∧ w2.cell? ⟨wb, 6, none⟩ = some (.int .u8 (o.by_.toNat : Int)) ∧ w2.cell? ⟨wb, 7, none⟩ = some (.slice a o.bs.length c)) ∧ (w2.cell? ⟨wb + 1, 0, none⟩ = some (.int .u64 (s : Int)) ∧ w2.cell? ⟨wb + 1, 1, none⟩ = some (.slice an l.length cn))) := ⟨b1.c8, b2.c2⟩
  refine HeldBut.one (i := 4) (by kernel_rfl) ?_
  refine HeldBut.step (i := 4) rfl (fun K hK => ?_)
  try simp only [List.getElem_toArray, List.getElem_cons_zero, List.getElem_cons_succ]
  go_simp
  go_at_call 39
  (with_reducible refine (ls _ xe).mono ?_)
  rintro e w3 ⟨v3, rs3, ⟨a3, m3, c3, rfl⟩, rfl, hO3, x3⟩
  dsimp only
  have c1' := b1.ext x3 (by simp)
  have c2' := b2.ext x3 (by simp)
  have c3' := b3.ext x3 (by simp)
  have hA := xe.size
  have xf : Ext [wb + 1 + 1] W w3 := (xe.trans x3).mono (by simp)
  refine hK.out _ _ (fun _ => ⟨c1'.c8, c2'.c2⟩) ?_; clear hK K
  try simp only [Act.put, List.getElem_toArray, List.getElem_cons_zero, List.getElem_cons_succ, List.setIfInBounds_toArray, List.set_cons_zero, List.set_cons_succ]
  clear hS0 x3 xe b1 b2 b3
  have b1 := c1'; have b2 := c2'; have b3 := c3'; clear c1' c2' c3'
  have hS0 : ((w3.cell? ⟨wb, 0, none⟩ = some (.int .i64 o.kind) ∧ w3.cell? ⟨wb, 1, none⟩ = some (.int .i64 o.fr) ∧ w3.cell? ⟨wb, 2, none⟩ = some (.int .i64 o.tt) ∧ w3.cell? ⟨wb, 3, none⟩ = some (.int .i64 o.at_) ∧ w3.cell? ⟨wb, 4, none⟩ = some (.int .i64 o.place) ∧ w3.cell? ⟨wb, 5, none⟩ = some (.bool o.other) ∧ w3.cell? ⟨wb, 6, none⟩ = some (.int .u8 (o.by_.toNat : Int)) ∧ w3.cell? ⟨wb, 7, none⟩ = some (.slice a o.bs.length c)) ∧ (w3.cell? ⟨wb + 1, 0, none⟩ = some (.int .u64 (s : Int)) ∧ w3.cell? ⟨wb + 1, 1, none⟩ = some (.slice an l.length cn))) := ⟨b1.c8, b2.c2⟩
  refine HeldBut.take (i := 5) (v := ?_) rfl (by kernel_rfl) (by kernel_rfl) (by kernel_rfl) (by kernel_rfl) (fun _ _ _ h => h) (Or.inl ⟨by kernel_rfl, ?_⟩) hS0 ?_; rotate_left 1; (focus (intro u hu; (try dsimp only at hu); go_simp; try with_reducible rfl))
  try simp only [Act.put, List.getElem_toArray, List.getElem_cons_zero, List.getElem_cons_succ, List.setIfInBounds_toArray, List.set_cons_zero, List.set_cons_succ]
  refine HeldBut.take (i := 6) (v := ?_) rfl (by kernel_rfl) (by kernel_rfl) (by kernel_rfl) (by kernel_rfl) (fun _ _ _ h => h) (Or.inl ⟨by kernel_rfl, ?_⟩) hS0 ?_; rotate_left 1; (focus (intro u hu; (try dsimp only at hu); go_simp; try with_reducible rfl))
  try simp only [Act.put, List.getElem_toArray, List.getElem_cons_zero, List.getElem_cons_succ, List.setIfInBounds_toArray, List.set_cons_zero, List.set_cons_succ]
  refine HeldBut.take (i := 7) (v := ?_) rfl (by kernel_rfl) (by kernel_rfl) (by kernel_rfl) (by kernel_rfl) (fun _ _ _ h => h) (Or.inl ⟨by kernel_rfl, ?_⟩) hS0 ?_; rotate_left 1; (focus (intro u hu; (try dsimp only at hu); go_simp; try with_reducible rfl))
  try simp only [Act.put, List.getElem_toArray, List.getElem_cons_zero, List.getElem_cons_succ, List.setIfInBounds_toArray, List.set_cons_zero, List.set_cons_succ]
  refine HeldBut.take (i := 8) (v := ?_) rfl (by kernel_rfl) (by kernel_rfl) (by kernel_rfl) (by kernel_rfl) (fun _ _ _ h => h) (Or.inl ⟨by kernel_rfl, ?_⟩) hS0 ?_; rotate_left 1; (focus (intro u hu; (try dsimp only at hu); go_simp; try with_reducible rfl))
  try simp only [Act.put, List.getElem_toArray, List.getElem_cons_zero, List.getElem_cons_succ, List.setIfInBounds_toArray, List.set_cons_zero, List.set_cons_succ]
  obtain ⟨t0, t1, t2, t3, t4, t5, t6, t7, t8, t9⟩ := b3.c10
  have tf := b3.frozen
  refine HeldBut.one (i := 9) (by kernel_rfl) ?_
  refine HeldBut.step (i := 9) rfl (fun K hK => ?_)
  try simp only [List.getElem_toArray, List.getElem_cons_zero, List.getElem_cons_succ]
  go_simp
  have x9 := ((Ext.refl [wb + 1 + 1] w3).setCell (p := ⟨wb + 1 + 1, 0, none⟩) (.inl (by simp)) (.int .u64 (T.n.s : Int))).setCell (p := ⟨wb + 1 + 1, 1, none⟩) (.inl (by simp)) (.slice a3 m3 c3)
  have c3' := ((b3).set 0 (.int .u64 (T.n.s : Int))).set 1 (.slice a3 m3 c3)
  simp only [List.set_cons_zero, List.set_cons_succ] at c3'
  have c1' := b1.ext x9 (by simp; omega)
  have c2' := b2.ext x9 (by simp)
  have hO4 := hO3.other b3 (by decide) (by decide) x9
  have xg := xf.trans x9
  refine hK.out _ _ (fun _ => ⟨c1'.c8, c2'.c2⟩) ?_; clear hK K
  try simp only [Act.put, List.getElem_toArray, List.getElem_cons_zero, List.getElem_cons_succ, List.setIfInBounds_toArray, List.set_cons_zero, List.set_cons_succ]
  clear hS0 x9 xf b1 b2 b3 t0 t1 t2 t3 t4 t5 t6 t7 t8 t9 tf hO3
  generalize ((w3).setCell ⟨wb + 1 + 1, 0, none⟩ (.int .u64 (T.n.s : Int))).setCell ⟨wb + 1 + 1, 1, none⟩ (.slice a3 m3 c3) = S0 at *
  have b1 := c1'; have b2 := c2'; have b3 := c3'; have hO3 := hO4; have xf := xg; clear c1' c2' c3' hO4 xg
  have hS0 : ((S0.cell? ⟨wb, 0, none⟩ = some (.int .i64 o.kind) ∧ S0.cell? ⟨wb, 1, none⟩ = some (.int .i64 o.fr) ∧ S0.cell? ⟨wb, 2, none⟩ = some (.int .i64 o.tt) ∧ S0.cell? ⟨wb, 3, none⟩ = some (.int .i64 o.at_) ∧ S0.cell? ⟨wb, 4, none⟩ = some (.int .i64 o.place) ∧ S0.cell? ⟨wb, 5, none⟩ = some (.bool o.other) ∧ S0.cell? ⟨wb, 6, none⟩ = some (.int .u8 (o.by_.toNat : Int)) ∧ S0.cell? ⟨wb, 7, none⟩ = some (.slice a o.bs.length c)) ∧ (S0.cell? ⟨wb + 1, 0, none⟩ = some (.int .u64 (s : Int)) ∧ S0.cell? ⟨wb + 1, 1, none⟩ = some (.slice an l.length cn))) := ⟨b1.c8, b2.c2⟩
  refine HeldBut.take (i := 10) (v := ?_) rfl (by kernel_rfl) (by kernel_rfl) (by kernel_rfl) (by kernel_rfl) (fun _ _ _ h => h) (Or.inl ⟨by kernel_rfl, ?_⟩) hS0 ?_; rotate_left 1; (focus (intro u hu; (try dsimp only at hu); go_simp; try with_reducible rfl))
  try simp only [Act.put, List.getElem_toArray, List.getElem_cons_zero, List.getElem_cons_succ, List.setIfInBounds_toArray, List.set_cons_zero, List.set_cons_succ]
  obtain ⟨t0, t1, t2, t3, t4, t5, t6, t7, t8, t9⟩ := b3.c10
  have tf := b3.frozen
  refine HeldBut.one (i := 11) (by kernel_rfl) ?_
  refine HeldBut.step (i := 11) rfl (fun K hK => ?_)
  try simp only [List.getElem_toArray, List.getElem_cons_zero, List.getElem_cons_succ]
  go_simp
  have x9 := (Ext.refl [wb + 1 + 1] S0).setCell (p := ⟨wb + 1 + 1, 9, none⟩) (.inl (by simp)) (.int .i64 T.e)
  have c3' := (b3).set 9 (.int .i64 T.e)
  simp only [List.set_cons_zero, List.set_cons_succ] at c3'
  have c1' := b1.ext x9 (by simp; omega)
  have c2' := b2.ext x9 (by simp)
  have hO4 := hO3.other b3 (by decide) (by decide) x9
  have xg := xf.trans x9
  refine hK.out _ _ (fun _ => ⟨c1'.c8, c2'.c2⟩) ?_; clear hK K
  try simp only [Act.put, List.getElem_toArray, List.getElem_cons_zero, List.getElem_cons_succ, List.setIfInBounds_toArray, List.set_cons_zero, List.set_cons_succ]
  clear hS0 x9 xf b1 b2 b3 t0 t1 t2 t3 t4 t5 t6 t7 t8 t9 tf hO3
  generalize (S0).setCell ⟨wb + 1 + 1, 9, none⟩ (.int .i64 T.e) = S1 at *
  have b1 := c1'; have b2 := c2'; have b3 := c3'; have hO3 := hO4; have xf := xg; clear c1' c2' c3' hO4 xg
  have hS0 : ((S1.cell? ⟨wb, 0, none⟩ = some (.int .i64 o.kind) ∧ S1.cell? ⟨wb, 1, none⟩ = some (.int .i64 o.fr) ∧ S1.cell? ⟨wb, 2, none⟩ = some (.int .i64 o.tt) ∧ S1.cell? ⟨wb, 3, none⟩ = some (.int .i64 o.at_) ∧ S1.cell? ⟨wb, 4, none⟩ = some (.int .i64 o.place) ∧ S1.cell? ⟨wb, 5, none⟩ = some (.bool o.other) ∧ S1.cell? ⟨wb, 6, none⟩ = some (.int .u8 (o.by_.toNat : Int)) ∧ S1.cell? ⟨wb, 7, none⟩ = some (.slice a o.bs.length c)) ∧ (S1.cell? ⟨wb + 1, 0, none⟩ = some (.int .u64 (s : Int)) ∧ S1.cell? ⟨wb + 1, 1, none⟩ = some (.slice an l.length cn))) := ⟨b1.c8, b2.c2⟩
  refine HeldBut.done (by kernel_rfl) ?_ _
  obtain ⟨t0, t1, t2, t3, t4, t5, t6, t7, t8, t9⟩ := b3.c10
  have tf := b3.frozen
  clear hS0 b1 b2
  go_wp2_with (fail)
  have xz := ((((((((((Ext.refl [wb + 1 + 1] S1).setCell (p := ⟨wb + 1 + 1, 0, none⟩) (.inl (by simp)) (.int .u64 (T.n.s : Int))).setCell (p := ⟨wb + 1 + 1, 1, none⟩) (.inl (by simp)) (.slice a3 m3 c3)).setCell (p := ⟨wb + 1 + 1, 2, none⟩) (.inl (by simp)) (.int .u64 0)).setCell (p := ⟨wb + 1 + 1, 3, none⟩) (.inl (by simp)) (.int .u64 0)).setCell (p := ⟨wb + 1 + 1, 4, none⟩) (.inl (by simp)) (.int .i64 0)).setCell (p := ⟨wb + 1 + 1, 5, none⟩) (.inl (by simp)) (.int .i64 0)).setCell (p := ⟨wb + 1 + 1, 6, none⟩) (.inl (by simp)) (.slice none 0 0)).setCell (p := ⟨wb + 1 + 1, 7, none⟩) (.inl (by simp)) (.bool false)).setCell (p := ⟨wb + 1 + 1, 8, none⟩) (.inl (by simp)) (.int .i64 0)).setCell (p := ⟨wb + 1 + 1, 9, none⟩) (.inl (by simp)) (.int .i64 T.e)
  have b5 := ((((((((((b3).set 0 (.int .u64 (T.n.s : Int))).set 1 (.slice a3 m3 c3)).set 2 (.int .u64 0)).set 3 (.int .u64 0)).set 4 (.int .i64 0)).set 5 (.int .i64 0)).set 6 (.slice none 0 0)).set 7 (.bool false)).set 8 (.int .i64 0)).set 9 (.int .i64 T.e)
  simp only [List.set_cons_zero, List.set_cons_succ] at b5
  have hO6 := hO3.other b3 (by decide) (by decide) xz
  refine ret_cell Try.results11 rfl b5 Try.underlying36 rfl told_info rfl ⟨.slice a3 m3 c3, rs3, ⟨_, _, _, rfl⟩, rfl, hO6.mono (by rw [HWB.out]; have := HSZ.out; omega), hE.trans' (xf.trans xz) (fun i hi => .inr (by have := HWB.out; simp at hi; omega))⟩
set_option maxRecDepth 100000 in
set_option maxHeartbeats 4000000 in
theorem run_twin (w : World) (o : OpR) (a : Option Addr) (c : Nat) (h : o.in64) (hk : o.knd = 6) (s : Nat) (v : Value) (l : List Par) (hP : Ps w v l) (hll : l.length ≤ 100000) :
    Calls Try.prog 11 #[OV o a c, NV s v] w fun e w' => ∃ v' rs', (∃ a' n' c', v' = .slice a' n' c') ∧ e = .returned (.agg #[.int .u64 ((ofM ⟨s, l⟩ (twinM ⟨s, l⟩ (o.num l))).n.s : Int), v', .int .u64 ((ofM ⟨s, l⟩ (twinM ⟨s, l⟩ (o.num l))).num : Int), .int .u64 0, .int .i64 0, .int .i64 0, .slice none 0 0, .bool false, .int .i64 0, .int .i64 (ofM ⟨s, l⟩ (twinM ⟨s, l⟩ (o.num l))).e]) ∧ OPs w.heap.size w' v' (ofM ⟨s, l⟩ (twinM ⟨s, l⟩ (o.num l))).n.ps rs' ∧ Ext [] w w' := by
  obtain ⟨an, cn, rfl⟩ := hP.shape
  have x1 := (Ext.refl [] w).alloc (.cells #[.int .i64 o.kind, .int .i64 o.fr, .int .i64 o.tt, .int .i64 o.at_, .int .i64 o.place, .bool o.other, .int .u8 (o.by_.toNat : Int), .slice a o.bs.length c] 31)
  have x2 := (Ext.refl [] (w.alloc (.cells #[.int .i64 o.kind, .int .i64 o.fr, .int .i64 o.tt, .int .i64 o.at_, .int .i64 o.place, .bool o.other, .int .u8 (o.by_.toNat : Int), .slice a o.bs.length c] 31))).alloc (.cells #[.int .u64 (s : Int), .slice an l.length cn] 25)
  have x3 := (Ext.refl [] ((w.alloc (.cells #[.int .i64 o.kind, .int .i64 o.fr, .int .i64 o.tt, .int .i64 o.at_, .int .i64 o.place, .bool o.other, .int .u8 (o.by_.toNat : Int), .slice a o.bs.length c] 31)).alloc (.cells #[.int .u64 (s : Int), .slice an l.length cn] 25))).alloc (.cells #[.int .u64 0, .slice none 0 0, .int .u64 0, .int .u64 0, .int .i64 0, .int .i64 0, .slice none 0 0, .bool false, .int .i64 0, .int .i64 0] 36)
  have b1 := (Blk.new w [.int .i64 o.kind, .int .i64 o.fr, .int .i64 o.tt, .int .i64 o.at_, .int .i64 o.place, .bool o.other, .int .u8 (o.by_.toNat : Int), .slice a o.bs.length c] 31).ext (x2.trans x3) (by simp)
  have b2 := (Blk.new (w.alloc (.cells #[.int .i64 o.kind, .int .i64 o.fr, .int .i64 o.tt, .int .i64 o.at_, .int .i64 o.place, .bool o.other, .int .u8 (o.by_.toNat : Int), .slice a o.bs.length c] 31)) [.int .u64 (s : Int), .slice an l.length cn] 25).ext x3 (by simp)
  have b3 := Blk.new ((w.alloc (.cells #[.int .i64 o.kind, .int .i64 o.fr, .int .i64 o.tt, .int .i64 o.at_, .int .i64 o.place, .bool o.other, .int .u8 (o.by_.toNat : Int), .slice a o.bs.length c] 31)).alloc (.cells #[.int .u64 (s : Int), .slice an l.length cn] 25)) [.int .u64 0, .slice none 0 0, .int .u64 0, .int .u64 0, .int .i64 0, .int .i64 0, .slice none 0 0, .bool false, .int .i64 0, .int .i64 0] 36
  have hE := (x1.trans x2).trans x3
  simp only [World.size_alloc] at b2 b3
  have hP := hP.ext hE
  have kd := fun w' => kind_any w' o a c h
  rw [hk] at kd
  have nm := fun w' (x : Ext [] (((w.alloc (.cells #[.int .i64 o.kind, .int .i64 o.fr, .int .i64 o.tt, .int .i64 o.at_, .int .i64 o.place, .bool o.other, .int .u8 (o.by_.toNat : Int), .slice a o.bs.length c] 31)).alloc (.cells #[.int .u64 (s : Int), .slice an l.length cn] 25)).alloc (.cells #[.int .u64 0, .slice none 0 0, .int .u64 0, .int .u64 0, .int .i64 0, .int .i64 0, .slice none 0 0, .bool false, .int .i64 0, .int .i64 0] 36)) w') => num_any w' o a c h s _ l (hP.ext x) hll
  have ls := fun w' (x : Ext [] (((w.alloc (.cells #[.int .i64 o.kind, .int .i64 o.fr, .int .i64 o.tt, .int .i64 o.at_, .int .i64 o.place, .bool o.other, .int .u8 (o.by_.toNat : Int), .slice a o.bs.length c] 31)).alloc (.cells #[.int .u64 (s : Int), .slice an l.length cn] 25)).alloc (.cells #[.int .u64 0, .slice none 0 0, .int .u64 0, .int .u64 0, .int .i64 0, .int .i64 0, .slice none 0 0, .bool false, .int .i64 0, .int .i64 0] 36)) w') => Twin_any w' s (o.num l) _ l (hP.ext x)
  generalize ofM ⟨s, l⟩ (twinM ⟨s, l⟩ (o.num l)) = T at *
  generalize o.num l = num at *
  have hsz : (((w.alloc (.cells #[.int .i64 o.kind, .int .i64 o.fr, .int .i64 o.tt, .int .i64 o.at_, .int .i64 o.place, .bool o.other, .int .u8 (o.by_.toNat : Int), .slice a o.bs.length c] 31)).alloc (.cells #[.int .u64 (s : Int), .slice an l.length cn] 25)).alloc (.cells #[.int .u64 0, .slice none 0 0, .int .u64 0, .int .u64 0, .int .i64 0, .int .i64 0, .slice none 0 0, .bool false, .int .i64 0, .int .i64 0] 36)).heap.size = w.heap.size + 3 := by simp
  have HSZ := Lib.hid hsz
  clear x1 x2 x3 h hk hP hsz
  obtain ⟨k0, k1, k2, k3, k4, k5, k6, k7⟩ := b1.c8
  obtain ⟨n0, n1⟩ := b2.c2
  go_enter Try.func11, Try.ntmps11
  go_upto_region 1 with (fail)
  generalize (((w.alloc (.cells #[.int .i64 o.kind, .int .i64 o.fr, .int .i64 o.tt, .int .i64 o.at_, .int .i64 o.place, .bool o.other, .int .u8 (o.by_.toNat : Int), .slice a o.bs.length c] 31)).alloc (.cells #[.int .u64 (s : Int), .slice an l.length cn] 25)).alloc (.cells #[.int .u64 0, .slice none 0 0, .int .u64 0, .int .u64 0, .int .i64 0, .int .i64 0, .slice none 0 0, .bool false, .int .i64 0, .int .i64 0] 36)) = W at *
  generalize hwb : w.heap.size = wb at *
  have HWB := Lib.hid hwb
  clear hwb
  go_upto_region 20 with (go_at_call 29; (with_reducible refine (kd _).mono ?_); rintro e w1 ⟨rfl, x1⟩)
  have xd := x1.trans (Ext.refl [] w1).drew
  have c1' := b1.ext xd (by simp)
  have c2' := b2.ext xd (by simp)
  have c3' := b3.ext xd (by simp)
  have hS0 : ((w1.drew.cell? ⟨wb, 0, none⟩ = some (.int .i64 o.kind) ∧ w1.drew.cell? ⟨wb, 1, none⟩ = some (.int .i64 o.fr) ∧ w1.drew.cell? ⟨wb, 2, none⟩ = some (.int .i64 o.tt) ∧ w1.drew.cell? ⟨wb, 3, none⟩ = some (.int .i64 o.at_) ∧ w1.drew.cell? ⟨wb, 4, none⟩ = some (.int .i64 o.place) ∧ w1.drew.cell? ⟨wb, 5, none⟩ = some (.bool o.other) ∧ w1.drew.cell? ⟨wb, 6, none⟩ = some (.int .u8 (o.by_.toNat : Int)) ∧ w1.drew.cell? ⟨wb, 7, none⟩ = some (.slice a o.bs.length c)) ∧ (w1.drew.cell? ⟨wb + 1, 0, none⟩ = some (.int .u64 (s : Int)) ∧ w1.drew.cell? ⟨wb + 1, 1, none⟩ = some (.slice an l.length cn))) := ⟨c1'.c8, c2'.c2⟩
  refine region_but (fun u => ((u.cell? ⟨wb, 0, none⟩ = some (.int .i64 o.kind) ∧ u.cell? ⟨wb, 1, none⟩ = some (.int .i64 o.fr) ∧ u.cell? ⟨wb, 2, none⟩ = some (.int .i64 o.tt) ∧ u.cell? ⟨wb, 3, none⟩ = some (.int .i64 o.at_) ∧ u.cell? ⟨wb, 4, none⟩ = some (.int .i64 o.place) ∧ u.cell? ⟨wb, 5, none⟩ = some (.bool o.other) ∧ u.cell? ⟨wb, 6, none⟩ = some (.int .u8 (o.by_.toNat : Int)) ∧ u.cell? ⟨wb, 7, none⟩ = some (.slice a o.bs.length c)) ∧ (u.cell? ⟨wb + 1, 0, none⟩ = some (.int .u64 (s : Int)) ∧ u.cell? ⟨wb + 1, 1, none⟩ = some (.slice an l.length cn)))) [] 15 rfl (by kernel_rfl) ?_
  clear b1 b2 b3 k0 k1 k2 k3 k4 k5 k6 k7 n0 n1 x1
  generalize w1.drew = U0 at *
  refine HeldBut.take (i := 0) (v := ?_) rfl (by kernel_rfl) (by kernel_rfl) (by kernel_rfl) (by kernel_rfl) (fun _ _ _ h => h) (Or.inl ⟨by kernel_rfl, ?_⟩) hS0 ?_; rotate_left 1; (focus (intro u hu; (try dsimp only at hu); go_simp; try with_reducible rfl))
  try simp only [Act.put, List.getElem_toArray, List.getElem_cons_zero, List.getElem_cons_succ, List.setIfInBounds_toArray, List.set_cons_zero, List.set_cons_succ]
  refine HeldBut.take (i := 1) (v := ?_) rfl (by kernel_rfl) (by kernel_rfl) (by kernel_rfl) (by kernel_rfl) (fun _ _ _ h => h) (Or.inl ⟨by kernel_rfl, ?_⟩) hS0 ?_; rotate_left 1; (focus (intro u hu; (try dsimp only at hu); go_simp; try with_reducible rfl))
  try simp only [Act.put, List.getElem_toArray, List.getElem_cons_zero, List.getElem_cons_succ, List.setIfInBounds_toArray, List.set_cons_zero, List.set_cons_succ]
  refine HeldBut.take (i := 2) (v := ?_) rfl (by kernel_rfl) (by kernel_rfl) (by kernel_rfl) (by kernel_rfl) (fun _ _ _ h => h) (Or.inl ⟨by kernel_rfl, ?_⟩) hS0 ?_; rotate_left 1; (focus (intro u hu; (try dsimp only at hu); go_simp; try with_reducible rfl))
  try simp only [Act.put, List.getElem_toArray, List.getElem_cons_zero, List.getElem_cons_succ, List.setIfInBounds_toArray, List.set_cons_zero, List.set_cons_succ]
  refine HeldBut.one (i := 3) (by kernel_rfl) ?_
  refine HeldBut.step (i := 3) rfl (fun K hK => ?_)
  try simp only [List.getElem_toArray, List.getElem_cons_zero, List.getElem_cons_succ]
  go_simp
  go_at_call 28
  (with_reducible refine (nm _ xd).mono ?_)
  rintro e w2 ⟨rfl, x2⟩
  dsimp only
  have b1 := c1'.ext x2 (by simp)
  have b2 := c2'.ext x2 (by simp)
  have b3 := c3'.ext x2 (by simp)
  have xe := xd.trans x2
  refine hK.out _ _ (fun _ => ⟨b1.c8, b2.c2⟩) ?_; clear hK K
  try simp only [Act.put, List.getElem_toArray, List.getElem_cons_zero, List.getElem_cons_succ, List.setIfInBounds_toArray, List.set_cons_zero, List.set_cons_succ]
  clear hS0 x2 xd c1' c2' c3'
  have hS0 : ((w2.cell? ⟨wb, 0, none⟩ = some (.int .i64 o.kind) ∧ w2.cell? ⟨wb, 1, none⟩ = some (.int .i64 o.fr) ∧ w2.cell? ⟨wb, 2, none⟩ = some (.int .i64 o.tt) ∧ w2.cell? ⟨wb, 3, none⟩ = some (.int .i64 o.at_) ∧ w2.cell? ⟨wb, 4, none⟩ = some (.int .i64 o.place) ∧ w2.cell? ⟨wb, 5, none⟩ = some (.bool o.other) ∧ w2.cell? ⟨wb, 6, none⟩ = some (.int .u8 (o.by_.toNat : Int)) ∧ w2.cell? ⟨wb, 7, none⟩ = some (.slice a o.bs.length c)) ∧ (w2.cell? ⟨wb + 1, 0, none⟩ = some (.int .u64 (s : Int)) ∧ w2.cell? ⟨wb + 1, 1, none⟩ = some (.slice an l.length cn))) := ⟨b1.c8, b2.c2⟩
  refine HeldBut.one (i := 4) (by kernel_rfl) ?_
  refine HeldBut.step (i := 4) rfl (fun K hK => ?_)
  try simp only [List.getElem_toArray, List.getElem_cons_zero, List.getElem_cons_succ]
  go_simp
  go_at_call 26
  (with_reducible refine (ls _ xe).mono ?_)
  rintro e w3 ⟨v3, rs3, ⟨a3, m3, c3, rfl⟩, rfl, hO3, x3⟩
  dsimp only
  have c1' := b1.ext x3 (by simp)
  have c2' := b2.ext x3 (by simp)
  have c3' := b3.ext x3 (by simp)
  have hA := xe.size
  have xf : Ext [wb + 1 + 1] W w3 := (xe.trans x3).mono (by simp)
  refine hK.out _ _ (fun _ => ⟨c1'.c8, c2'.c2⟩) ?_; clear hK K
  try simp only [Act.put, List.getElem_toArray, List.getElem_cons_zero, List.getElem_cons_succ, List.setIfInBounds_toArray, List.set_cons_zero, List.set_cons_succ]
  clear hS0 x3 xe b1 b2 b3
  have b1 := c1'; have b2 := c2'; have b3 := c3'; clear c1' c2' c3'
  have hS0 : ((w3.cell? ⟨wb, 0, none⟩ = some (.int .i64 o.kind) ∧ w3.cell? ⟨wb, 1, none⟩ = some (.int .i64 o.fr) ∧ w3.cell? ⟨wb, 2, none⟩ = some (.int .i64 o.tt) ∧ w3.cell? ⟨wb, 3, none⟩ = some (.int .i64 o.at_) ∧ w3.cell? ⟨wb, 4, none⟩ = some (.int .i64 o.place) ∧ w3.cell? ⟨wb, 5, none⟩ = some (.bool o.other) ∧ w3.cell? ⟨wb, 6, none⟩ = some (.int .u8 (o.by_.toNat : Int)) ∧ w3.cell? ⟨wb, 7, none⟩ = some (.slice a o.bs.length c)) ∧ (w3.cell? ⟨wb + 1, 0, none⟩ = some (.int .u64 (s : Int)) ∧ w3.cell? ⟨wb + 1, 1, none⟩ = some (.slice an l.length cn))) := ⟨b1.c8, b2.c2⟩
  refine HeldBut.take (i := 5) (v := ?_) rfl (by kernel_rfl) (by kernel_rfl) (by kernel_rfl) (by kernel_rfl) (fun _ _ _ h => h) (Or.inl ⟨by kernel_rfl, ?_⟩) hS0 ?_; rotate_left 1; (focus (intro u hu; (try dsimp only at hu); go_simp; try with_reducible rfl))
  try simp only [Act.put, List.getElem_toArray, List.getElem_cons_zero, List.getElem_cons_succ, List.setIfInBounds_toArray, List.set_cons_zero, List.set_cons_succ]
  refine HeldBut.take (i := 6) (v := ?_) rfl (by kernel_rfl) (by kernel_rfl) (by kernel_rfl) (by kernel_rfl) (fun _ _ _ h => h) (Or.inl ⟨by kernel_rfl, ?_⟩) hS0 ?_; rotate_left 1; (focus (intro u hu; (try dsimp only at hu); go_simp; try with_reducible rfl))
  try simp only [Act.put, List.getElem_toArray, List.getElem_cons_zero, List.getElem_cons_succ, List.setIfInBounds_toArray, List.set_cons_zero, List.set_cons_succ]
  refine HeldBut.take (i := 7) (v := ?_) rfl (by kernel_rfl) (by kernel_rfl) (by kernel_rfl) (by kernel_rfl) (fun _ _ _ h => h) (Or.inl ⟨by kernel_rfl, ?_⟩) hS0 ?_; rotate_left 1; (focus (intro u hu; (try dsimp only at hu); go_simp; try with_reducible rfl))
  try simp only [Act.put, List.getElem_toArray, List.getElem_cons_zero, List.getElem_cons_succ, List.setIfInBounds_toArray, List.set_cons_zero, List.set_cons_succ]
  refine HeldBut.take (i := 8) (v := ?_) rfl (by kernel_rfl) (by kernel_rfl) (by kernel_rfl) (by kernel_rfl) (fun _ _ _ h => h) (Or.inl ⟨by kernel_rfl, ?_⟩) hS0 ?_; rotate_left 1; (focus (intro u hu; (try dsimp only at hu); go_simp; try with_reducible rfl))
  try simp only [Act.put, List.getElem_toArray, List.getElem_cons_zero, List.getElem_cons_succ, List.setIfInBounds_toArray, List.set_cons_zero, List.set_cons_succ]
  refine HeldBut.take (i := 9) (v := ?_) rfl (by kernel_rfl) (by kernel_rfl) (by kernel_rfl) (by kernel_rfl) (fun _ _ _ h => h) (Or.inl ⟨by kernel_rfl, ?_⟩) hS0 ?_; rotate_left 1; (focus (intro u hu; (try dsimp only at hu); go_simp; try with_reducible rfl))
  try simp only [Act.put, List.getElem_toArray, List.getElem_cons_zero, List.getElem_cons_succ, List.setIfInBounds_toArray, List.set_cons_zero, List.set_cons_succ]
  obtain ⟨t0, t1, t2, t3, t4, t5, t6, t7, t8, t9⟩ := b3.c10
  have tf := b3.frozen
  refine HeldBut.one (i := 10) (by kernel_rfl) ?_
  refine HeldBut.step (i := 10) rfl (fun K hK => ?_)
  try simp only [List.getElem_toArray, List.getElem_cons_zero, List.getElem_cons_succ]
  go_simp
  have x9 := ((Ext.refl [wb + 1 + 1] w3).setCell (p := ⟨wb + 1 + 1, 0, none⟩) (.inl (by simp)) (.int .u64 (T.n.s : Int))).setCell (p := ⟨wb + 1 + 1, 1, none⟩) (.inl (by simp)) (.slice a3 m3 c3)
  have c3' := ((b3).set 0 (.int .u64 (T.n.s : Int))).set 1 (.slice a3 m3 c3)
  simp only [List.set_cons_zero, List.set_cons_succ] at c3'
  have c1' := b1.ext x9 (by simp; omega)
  have c2' := b2.ext x9 (by simp)
  have hO4 := hO3.other b3 (by decide) (by decide) x9
  have xg := xf.trans x9
  refine hK.out _ _ (fun _ => ⟨c1'.c8, c2'.c2⟩) ?_; clear hK K
  try simp only [Act.put, List.getElem_toArray, List.getElem_cons_zero, List.getElem_cons_succ, List.setIfInBounds_toArray, List.set_cons_zero, List.set_cons_succ]
  clear hS0 x9 xf b1 b2 b3 t0 t1 t2 t3 t4 t5 t6 t7 t8 t9 tf hO3
  generalize ((w3).setCell ⟨wb + 1 + 1, 0, none⟩ (.int .u64 (T.n.s : Int))).setCell ⟨wb + 1 + 1, 1, none⟩ (.slice a3 m3 c3) = S0 at *
  have b1 := c1'; have b2 := c2'; have b3 := c3'; have hO3 := hO4; have xf := xg; clear c1' c2' c3' hO4 xg
  have hS0 : ((S0.cell? ⟨wb, 0, none⟩ = some (.int .i64 o.kind) ∧ S0.cell? ⟨wb, 1, none⟩ = some (.int .i64 o.fr) ∧ S0.cell? ⟨wb, 2, none⟩ = some (.int .i64 o.tt) ∧ S0.cell? ⟨wb, 3, none⟩ = some (.int .i64 o.at_) ∧ S0.cell? ⟨wb, 4, none⟩ = some (.int .i64 o.place) ∧ S0.cell? ⟨wb, 5, none⟩ = some (.bool o.other) ∧ S0.cell? ⟨wb, 6, none⟩ = some (.int .u8 (o.by_.toNat : Int)) ∧ S0.cell? ⟨wb, 7, none⟩ = some (.slice a o.bs.length c)) ∧ (S0.cell? ⟨wb + 1, 0, none⟩ = some (.int .u64 (s : Int)) ∧ S0.cell? ⟨wb + 1, 1, none⟩ = some (.slice an l.length cn))) := ⟨b1.c8, b2.c2⟩
  refine HeldBut.take (i := 11) (v := ?_) rfl (by kernel_rfl) (by kernel_rfl) (by kernel_rfl) (by kernel_rfl) (fun _ _ _ h => h) (Or.inl ⟨by kernel_rfl, ?_⟩) hS0 ?_; rotate_left 1; (focus (intro u hu; (try dsimp only at hu); go_simp; try with_reducible rfl))
  try simp only [Act.put, List.getElem_toArray, List.getElem_cons_zero, List.getElem_cons_succ, List.setIfInBounds_toArray, List.set_cons_zero, List.set_cons_succ]
  obtain ⟨t0, t1, t2, t3, t4, t5, t6, t7, t8, t9⟩ := b3.c10
  have tf := b3.frozen
  refine HeldBut.one (i := 12) (by kernel_rfl) ?_
  refine HeldBut.step (i := 12) rfl (fun K hK => ?_)
  try simp only [List.getElem_toArray, List.getElem_cons_zero, List.getElem_cons_succ]
  go_simp
  have x9 := (Ext.refl [wb + 1 + 1] S0).setCell (p := ⟨wb + 1 + 1, 2, none⟩) (.inl (by simp)) (.int .u64 (T.num : Int))
  have c3' := (b3).set 2 (.int .u64 (T.num : Int))
  simp only [List.set_cons_zero, List.set_cons_succ] at c3'
  have c1' := b1.ext x9 (by simp; omega)
  have c2' := b2.ext x9 (by simp)
  have hO4 := hO3.other b3 (by decide) (by decide) x9
  have xg := xf.trans x9
  refine hK.out _ _ (fun _ => ⟨c1'.c8, c2'.c2⟩) ?_; clear hK K
  try simp only [Act.put, List.getElem_toArray, List.getElem_cons_zero, List.getElem_cons_succ, List.setIfInBounds_toArray, List.set_cons_zero, List.set_cons_succ]
  clear hS0 x9 xf b1 b2 b3 t0 t1 t2 t3 t4 t5 t6 t7 t8 t9 tf hO3
  generalize (S0).setCell ⟨wb + 1 + 1, 2, none⟩ (.int .u64 (T.num : Int)) = S1 at *
  have b1 := c1'; have b2 := c2'; have b3 := c3'; have hO3 := hO4; have xf := xg; clear c1' c2' c3' hO4 xg
  have hS0 : ((S1.cell? ⟨wb, 0, none⟩ = some (.int .i64 o.kind) ∧ S1.cell? ⟨wb, 1, none⟩ = some (.int .i64 o.fr) ∧ S1.cell? ⟨wb, 2, none⟩ = some (.int .i64 o.tt) ∧ S1.cell? ⟨wb, 3, none⟩ = some (.int .i64 o.at_) ∧ S1.cell? ⟨wb, 4, none⟩ = some (.int .i64 o.place) ∧ S1.cell? ⟨wb, 5, none⟩ = some (.bool o.other) ∧ S1.cell? ⟨wb, 6, none⟩ = some (.int .u8 (o.by_.toNat : Int)) ∧ S1.cell? ⟨wb, 7, none⟩ = some (.slice a o.bs.length c)) ∧ (S1.cell? ⟨wb + 1, 0, none⟩ = some (.int .u64 (s : Int)) ∧ S1.cell? ⟨wb + 1, 1, none⟩ = some (.slice an l.length cn))) := ⟨b1.c8, b2.c2⟩
  refine HeldBut.take (i := 13) (v := ?_) rfl (by kernel_rfl) (by kernel_rfl) (by kernel_rfl) (by kernel_rfl) (fun _ _ _ h => h) (Or.inl ⟨by kernel_rfl, ?_⟩) hS0 ?_; rotate_left 1; (focus (intro u hu; (try dsimp only at hu); go_simp; try with_reducible rfl))
  try simp only [Act.put, List.getElem_toArray, List.getElem_cons_zero, List.getElem_cons_succ, List.setIfInBounds_toArray, List.set_cons_zero, List.set_cons_succ]
  obtain ⟨t0, t1, t2, t3, t4, t5, t6, t7, t8, t9⟩ := b3.c10
  have tf := b3.frozen
  refine HeldBut.one (i := 14) (by kernel_rfl) ?_
  refine HeldBut.step (i := 14) rfl (fun K hK => ?_)
  try simp only [List.getElem_toArray, List.getElem_cons_zero, List.getElem_cons_succ]
  go_simp
  have x9 := (Ext.refl [wb + 1 + 1] S1).setCell (p := ⟨wb + 1 + 1, 9, none⟩) (.inl (by simp)) (.int .i64 T.e)
  have c3' := (b3).set 9 (.int .i64 T.e)
  simp only [List.set_cons_zero, List.set_cons_succ] at c3'
  have c1' := b1.ext x9 (by simp; omega)
  have c2' := b2.ext x9 (by simp)
  have hO4 := hO3.other b3 (by decide) (by decide) x9
  have xg := xf.trans x9
  refine hK.out _ _ (fun _ => ⟨c1'.c8, c2'.c2⟩) ?_; clear hK K
  try simp only [Act.put, List.getElem_toArray, List.getElem_cons_zero, List.getElem_cons_succ, List.setIfInBounds_toArray, List.set_cons_zero, List.set_cons_succ]
  clear hS0 x9 xf b1 b2 b3 t0 t1 t2 t3 t4 t5 t6 t7 t8 t9 tf hO3
  generalize (S1).setCell ⟨wb + 1 + 1, 9, none⟩ (.int .i64 T.e) = S2 at *
  have b1 := c1'; have b2 := c2'; have b3 := c3'; have hO3 := hO4; have xf := xg; clear c1' c2' c3' hO4 xg
  have hS0 : ((S2.cell? ⟨wb, 0, none⟩ = some (.int .i64 o.kind) ∧ S2.cell? ⟨wb, 1, none⟩ = some (.int .i64 o.fr) ∧ S2.cell? ⟨wb, 2, none⟩ = some (.int .i64 o.tt) ∧ S2.cell? ⟨wb, 3, none⟩ = some (.int .i64 o.at_) ∧ S2.cell? ⟨wb, 4, none⟩ = some (.int .i64 o.place) ∧ S2.cell? ⟨wb, 5, none⟩ = some (.bool o.other) ∧ S2.cell? ⟨wb, 6, none⟩ = some (.int .u8 (o.by_.toNat : Int)) ∧ S2.cell? ⟨wb, 7, none⟩ = some (.slice a o.bs.length c)) ∧ (S2.cell? ⟨wb + 1, 0, none⟩ = some (.int .u64 (s : Int)) ∧ S2.cell? ⟨wb + 1, 1, none⟩ = some (.slice an l.length cn))) := ⟨b1.c8, b2.c2⟩
  refine HeldBut.done (by kernel_rfl) ?_ _
  obtain ⟨t0, t1, t2, t3, t4, t5, t6, t7, t8, t9⟩ := b3.c10
  have tf := b3.frozen
  clear hS0 b1 b2
  go_wp2_with (fail)
  have xz := ((((((((((Ext.refl [wb + 1 + 1] S2).setCell (p := ⟨wb + 1 + 1, 0, none⟩) (.inl (by simp)) (.int .u64 (T.n.s : Int))).setCell (p := ⟨wb + 1 + 1, 1, none⟩) (.inl (by simp)) (.slice a3 m3 c3)).setCell (p := ⟨wb + 1 + 1, 2, none⟩) (.inl (by simp)) (.int .u64 (T.num : Int))).setCell (p := ⟨wb + 1 + 1, 3, none⟩) (.inl (by simp)) (.int .u64 0)).setCell (p := ⟨wb + 1 + 1, 4, none⟩) (.inl (by simp)) (.int .i64 0)).setCell (p := ⟨wb + 1 + 1, 5, none⟩) (.inl (by simp)) (.int .i64 0)).setCell (p := ⟨wb + 1 + 1, 6, none⟩) (.inl (by simp)) (.slice none 0 0)).setCell (p := ⟨wb + 1 + 1, 7, none⟩) (.inl (by simp)) (.bool false)).setCell (p := ⟨wb + 1 + 1, 8, none⟩) (.inl (by simp)) (.int .i64 0)).setCell (p := ⟨wb + 1 + 1, 9, none⟩) (.inl (by simp)) (.int .i64 T.e)
  have b5 := ((((((((((b3).set 0 (.int .u64 (T.n.s : Int))).set 1 (.slice a3 m3 c3)).set 2 (.int .u64 (T.num : Int))).set 3 (.int .u64 0)).set 4 (.int .i64 0)).set 5 (.int .i64 0)).set 6 (.slice none 0 0)).set 7 (.bool false)).set 8 (.int .i64 0)).set 9 (.int .i64 T.e)
  simp only [List.set_cons_zero, List.set_cons_succ] at b5
  have hO6 := hO3.other b3 (by decide) (by decide) xz
  refine ret_cell Try.results11 rfl b5 Try.underlying36 rfl told_info rfl ⟨.slice a3 m3 c3, rs3, ⟨_, _, _, rfl⟩, rfl, hO6.mono (by rw [HWB.out]; have := HSZ.out; omega), hE.trans' (xf.trans xz) (fun i hi => .inr (by have := HWB.out; simp at hi; omega))⟩
set_option maxRecDepth 100000 in
set_option maxHeartbeats 4000000 in
theorem run_come (w : World) (o : OpR) (a : Option Addr) (c : Nat) (h : o.in64) (hk : o.knd = 3) (s : Nat) (v : Value) (l : List Par) (hP : Ps w v l) (hll : l.length ≤ 100000) :
    Calls Try.prog 11 #[OV o a c, NV s v] w fun e w' => ∃ v' rs' r, (∃ a' n' c', v' = .slice a' n' c') ∧ e = .returned (.agg #[.int .u64 ((ofM ⟨s, l⟩ (comeM ⟨s, l⟩ (o.num l))).n.s : Int), v', .int .u64 0, .int .u64 (r.num : Int), .int .i64 r.fr, .int .i64 r.to, r.b, .bool r.sp, .int .i64 0, .int .i64 (ofM ⟨s, l⟩ (comeM ⟨s, l⟩ (o.num l))).e]) ∧ OPs w.heap.size w' v' (ofM ⟨s, l⟩ (comeM ⟨s, l⟩ (o.num l))).n.ps rs' ∧ OIs w.heap.size w' r (ofM ⟨s, l⟩ (comeM ⟨s, l⟩ (o.num l))).p ∧ Apart r rs' ∧ Ext [] w w' := by
  obtain ⟨an, cn, rfl⟩ := hP.shape
  have x1 := (Ext.refl [] w).alloc (.cells #[.int .i64 o.kind, .int .i64 o.fr, .int .i64 o.tt, .int .i64 o.at_, .int .i64 o.place, .bool o.other, .int .u8 (o.by_.toNat : Int), .slice a o.bs.length c] 31)
  have x2 := (Ext.refl [] (w.alloc (.cells #[.int .i64 o.kind, .int .i64 o.fr, .int .i64 o.tt, .int .i64 o.at_, .int .i64 o.place, .bool o.other, .int .u8 (o.by_.toNat : Int), .slice a o.bs.length c] 31))).alloc (.cells #[.int .u64 (s : Int), .slice an l.length cn] 25)
  have x3 := (Ext.refl [] ((w.alloc (.cells #[.int .i64 o.kind, .int .i64 o.fr, .int .i64 o.tt, .int .i64 o.at_, .int .i64 o.place, .bool o.other, .int .u8 (o.by_.toNat : Int), .slice a o.bs.length c] 31)).alloc (.cells #[.int .u64 (s : Int), .slice an l.length cn] 25))).alloc (.cells #[.int .u64 0, .slice none 0 0, .int .u64 0, .int .u64 0, .int .i64 0, .int .i64 0, .slice none 0 0, .bool false, .int .i64 0, .int .i64 0] 36)
  have b1 := (Blk.new w [.int .i64 o.kind, .int .i64 o.fr, .int .i64 o.tt, .int .i64 o.at_, .int .i64 o.place, .bool o.other, .int .u8 (o.by_.toNat : Int), .slice a o.bs.length c] 31).ext (x2.trans x3) (by simp)
  have b2 := (Blk.new (w.alloc (.cells #[.int .i64 o.kind, .int .i64 o.fr, .int .i64 o.tt, .int .i64 o.at_, .int .i64 o.place, .bool o.other, .int .u8 (o.by_.toNat : Int), .slice a o.bs.length c] 31)) [.int .u64 (s : Int), .slice an l.length cn] 25).ext x3 (by simp)
  have b3 := Blk.new ((w.alloc (.cells #[.int .i64 o.kind, .int .i64 o.fr, .int .i64 o.tt, .int .i64 o.at_, .int .i64 o.place, .bool o.other, .int .u8 (o.by_.toNat : Int), .slice a o.bs.length c] 31)).alloc (.cells #[.int .u64 (s : Int), .slice an l.length cn] 25)) [.int .u64 0, .slice none 0 0, .int .u64 0, .int .u64 0, .int .i64 0, .int .i64 0, .slice none 0 0, .bool false, .int .i64 0, .int .i64 0] 36
  have hE := (x1.trans x2).trans x3
  simp only [World.size_alloc] at b2 b3
  have hP := hP.ext hE
  have kd := fun w' => kind_any w' o a c h
  rw [hk] at kd
  have nm := fun w' (x : Ext [] (((w.alloc (.cells #[.int .i64 o.kind, .int .i64 o.fr, .int .i64 o.tt, .int .i64 o.at_, .int .i64 o.place, .bool o.other, .int .u8 (o.by_.toNat : Int), .slice a o.bs.length c] 31)).alloc (.cells #[.int .u64 (s : Int), .slice an l.length cn] 25)).alloc (.cells #[.int .u64 0, .slice none 0 0, .int .u64 0, .int .u64 0, .int .i64 0, .int .i64 0, .slice none 0 0, .bool false, .int .i64 0, .int .i64 0] 36)) w') => num_any w' o a c h s _ l (hP.ext x) hll
  have ls := fun w' (x : Ext [] (((w.alloc (.cells #[.int .i64 o.kind, .int .i64 o.fr, .int .i64 o.tt, .int .i64 o.at_, .int .i64 o.place, .bool o.other, .int .u8 (o.by_.toNat : Int), .slice a o.bs.length c] 31)).alloc (.cells #[.int .u64 (s : Int), .slice an l.length cn] 25)).alloc (.cells #[.int .u64 0, .slice none 0 0, .int .u64 0, .int .u64 0, .int .i64 0, .int .i64 0, .slice none 0 0, .bool false, .int .i64 0, .int .i64 0] 36)) w') => Come_any w' s (o.num l) _ l (hP.ext x)
  generalize ofM ⟨s, l⟩ (comeM ⟨s, l⟩ (o.num l)) = T at *
  generalize o.num l = num at *
  have hsz : (((w.alloc (.cells #[.int .i64 o.kind, .int .i64 o.fr, .int .i64 o.tt, .int .i64 o.at_, .int .i64 o.place, .bool o.other, .int .u8 (o.by_.toNat : Int), .slice a o.bs.length c] 31)).alloc (.cells #[.int .u64 (s : Int), .slice an l.length cn] 25)).alloc (.cells #[.int .u64 0, .slice none 0 0, .int .u64 0, .int .u64 0, .int .i64 0, .int .i64 0, .slice none 0 0, .bool false, .int .i64 0, .int .i64 0] 36)).heap.size = w.heap.size + 3 := by simp
  have HSZ := Lib.hid hsz
  clear x1 x2 x3 h hk hP hsz
  obtain ⟨k0, k1, k2, k3, k4, k5, k6, k7⟩ := b1.c8
  obtain ⟨n0, n1⟩ := b2.c2
  go_enter Try.func11, Try.ntmps11
  go_upto_region 1 with (fail)
  generalize (((w.alloc (.cells #[.int .i64 o.kind, .int .i64 o.fr, .int .i64 o.tt, .int .i64 o.at_, .int .i64 o.place, .bool o.other, .int .u8 (o.by_.toNat : Int), .slice a o.bs.length c] 31)).alloc (.cells #[.int .u64 (s : Int), .slice an l.length cn] 25)).alloc (.cells #[.int .u64 0, .slice none 0 0, .int .u64 0, .int .u64 0, .int .i64 0, .int .i64 0, .slice none 0 0, .bool false, .int .i64 0, .int .i64 0] 36)) = W at *
  generalize hwb : w.heap.size = wb at *
  have HWB := Lib.hid hwb
  clear hwb
  go_upto_region 14 with (go_at_call 29; (with_reducible refine (kd _).mono ?_); rintro e w1 ⟨rfl, x1⟩)
  have xd := x1.trans (Ext.refl [] w1).drew
  have c1' := b1.ext xd (by simp)
  have c2' := b2.ext xd (by simp)
  have c3' := b3.ext xd (by simp)
  have hS0 : ((w1.drew.cell? ⟨wb, 0, none⟩ = some (.int .i64 o.kind) ∧ w1.drew.cell? ⟨wb, 1, none⟩ = some (.int .i64 o.fr) ∧ w1.drew.cell? ⟨wb, 2, none⟩ = some (.int .i64 o.tt) ∧ w1.drew.cell? ⟨wb, 3, none⟩ = some (.int .i64 o.at_) ∧ w1.drew.cell? ⟨wb, 4, none⟩ = some (.int .i64 o.place) ∧ w1.drew.cell? ⟨wb, 5, none⟩ = some (.bool o.other) ∧ w1.drew.cell? ⟨wb, 6, none⟩ = some (.int .u8 (o.by_.toNat : Int)) ∧ w1.drew.cell? ⟨wb, 7, none⟩ = some (.slice a o.bs.length c)) ∧ (w1.drew.cell? ⟨wb + 1, 0, none⟩ = some (.int .u64 (s : Int)) ∧ w1.drew.cell? ⟨wb + 1, 1, none⟩ = some (.slice an l.length cn))) := ⟨c1'.c8, c2'.c2⟩
  refine region_but (fun u => ((u.cell? ⟨wb, 0, none⟩ = some (.int .i64 o.kind) ∧ u.cell? ⟨wb, 1, none⟩ = some (.int .i64 o.fr) ∧ u.cell? ⟨wb, 2, none⟩ = some (.int .i64 o.tt) ∧ u.cell? ⟨wb, 3, none⟩ = some (.int .i64 o.at_) ∧ u.cell? ⟨wb, 4, none⟩ = some (.int .i64 o.place) ∧ u.cell? ⟨wb, 5, none⟩ = some (.bool o.other) ∧ u.cell? ⟨wb, 6, none⟩ = some (.int .u8 (o.by_.toNat : Int)) ∧ u.cell? ⟨wb, 7, none⟩ = some (.slice a o.bs.length c)) ∧ (u.cell? ⟨wb + 1, 0, none⟩ = some (.int .u64 (s : Int)) ∧ u.cell? ⟨wb + 1, 1, none⟩ = some (.slice an l.length cn)))) [] 15 rfl (by kernel_rfl) ?_
  clear b1 b2 b3 k0 k1 k2 k3 k4 k5 k6 k7 n0 n1 x1
  generalize w1.drew = U0 at *
  refine HeldBut.take (i := 0) (v := ?_) rfl (by kernel_rfl) (by kernel_rfl) (by kernel_rfl) (by kernel_rfl) (fun _ _ _ h => h) (Or.inl ⟨by kernel_rfl, ?_⟩) hS0 ?_; rotate_left 1; (focus (intro u hu; (try dsimp only at hu); go_simp; try with_reducible rfl))
  try simp only [Act.put, List.getElem_toArray, List.getElem_cons_zero, List.getElem_cons_succ, List.setIfInBounds_toArray, List.set_cons_zero, List.set_cons_succ]
  refine HeldBut.take (i := 1) (v := ?_) rfl (by kernel_rfl) (by kernel_rfl) (by kernel_rfl) (by kernel_rfl) (fun _ _ _ h => h) (Or.inl ⟨by kernel_rfl, ?_⟩) hS0 ?_; rotate_left 1; (focus (intro u hu; (try dsimp only at hu); go_simp; try with_reducible rfl))
  try simp only [Act.put, List.getElem_toArray, List.getElem_cons_zero, List.getElem_cons_succ, List.setIfInBounds_toArray, List.set_cons_zero, List.set_cons_succ]
  refine HeldBut.take (i := 2) (v := ?_) rfl (by kernel_rfl) (by kernel_rfl) (by kernel_rfl) (by kernel_rfl) (fun _ _ _ h => h) (Or.inl ⟨by kernel_rfl, ?_⟩) hS0 ?_; rotate_left 1; (focus (intro u hu; (try dsimp only at hu); go_simp; try with_reducible rfl))
  try simp only [Act.put, List.getElem_toArray, List.getElem_cons_zero, List.getElem_cons_succ, List.setIfInBounds_toArray, List.set_cons_zero, List.set_cons_succ]
  refine HeldBut.one (i := 3) (by kernel_rfl) ?_
  refine HeldBut.step (i := 3) rfl (fun K hK => ?_)
  try simp only [List.getElem_toArray, List.getElem_cons_zero, List.getElem_cons_succ]
  go_simp
  go_at_call 28
  (with_reducible refine (nm _ xd).mono ?_)
  rintro e w2 ⟨rfl, x2⟩
  dsimp only
  have b1 := c1'.ext x2 (by simp)
  have b2 := c2'.ext x2 (by simp)
  have b3 := c3'.ext x2 (by simp)
  have xe := xd.trans x2
  refine hK.out _ _ (fun _ => ⟨b1.c8, b2.c2⟩) ?_; clear hK K
  try simp only [Act.put, List.getElem_toArray, List.getElem_cons_zero, List.getElem_cons_succ, List.setIfInBounds_toArray, List.set_cons_zero, List.set_cons_succ]
  clear hS0 x2 xd c1' c2' c3'
  have hS0 : ((w2.cell? ⟨wb, 0, none⟩ = some (.int .i64 o.kind) ∧ w2.cell? ⟨wb, 1, none⟩ = some (.int .i64 o.fr) ∧ w2.cell? ⟨wb, 2, none⟩ = some (.int .i64 o.tt) ∧ w2.cell? ⟨wb, 3, none⟩ = some (.int .i64 o.at_) ∧ w2.cell? ⟨wb, 4, none⟩ = some (.int .i64 o.place) ∧ w2.cell? ⟨wb, 5, none⟩ = some (.bool o.other) ∧ w2.cell? ⟨wb, 6, none⟩ = some (.int .u8 (o.by_.toNat : Int)) ∧ w2.cell? ⟨wb, 7, none⟩ = some (.slice a o.bs.length c)) ∧ (w2.cell? ⟨wb + 1, 0, none⟩ = some (.int .u64 (s : Int)) ∧ w2.cell? ⟨wb + 1, 1, none⟩ = some (.slice an l.length cn))) := ⟨b1.c8, b2.c2⟩
  refine HeldBut.one (i := 4) (by kernel_rfl) ?_
  refine HeldBut.step (i := 4) rfl (fun K hK => ?_)
  try simp only [List.getElem_toArray, List.getElem_cons_zero, List.getElem_cons_succ]
  go_simp
  go_at_call 37
  (with_reducible refine (ls _ xe).mono ?_)
  rintro e w3 ⟨v3, rs3, r3, ⟨a3, m3, c3, rfl⟩, rfl, hO3, hI3, hA3, x3⟩
  dsimp only
  obtain ⟨ra, rc, hrb⟩ := own_shape hI3.2.2.2.2
  obtain ⟨rn, rf, rt, rb, rsp⟩ := r3
  dsimp only at hrb
  subst hrb
  have c1' := b1.ext x3 (by simp)
  have c2' := b2.ext x3 (by simp)
  have c3' := b3.ext x3 (by simp)
  have hA := xe.size
  have xf : Ext [wb + 1 + 1] W w3 := (xe.trans x3).mono (by simp)
  refine hK.out _ _ (fun _ => ⟨c1'.c8, c2'.c2⟩) ?_; clear hK K
  try simp only [Act.put, List.getElem_toArray, List.getElem_cons_zero, List.getElem_cons_succ, List.setIfInBounds_toArray, List.set_cons_zero, List.set_cons_succ]
  clear hS0 x3 xe b1 b2 b3
  have b1 := c1'; have b2 := c2'; have b3 := c3'; clear c1' c2' c3'
  have hS0 : ((w3.cell? ⟨wb, 0, none⟩ = some (.int .i64 o.kind) ∧ w3.cell? ⟨wb, 1, none⟩ = some (.int .i64 o.fr) ∧ w3.cell? ⟨wb, 2, none⟩ = some (.int .i64 o.tt) ∧ w3.cell? ⟨wb, 3, none⟩ = some (.int .i64 o.at_) ∧ w3.cell? ⟨wb, 4, none⟩ = some (.int .i64 o.place) ∧ w3.cell? ⟨wb, 5, none⟩ = some (.bool o.other) ∧ w3.cell? ⟨wb, 6, none⟩ = some (.int .u8 (o.by_.toNat : Int)) ∧ w3.cell? ⟨wb, 7, none⟩ = some (.slice a o.bs.length c)) ∧ (w3.cell? ⟨wb + 1, 0, none⟩ = some (.int .u64 (s : Int)) ∧ w3.cell? ⟨wb + 1, 1, none⟩ = some (.slice an l.length cn))) := ⟨b1.c8, b2.c2⟩
  refine HeldBut.take (i := 5) (v := ?_) rfl (by kernel_rfl) (by kernel_rfl) (by kernel_rfl) (by kernel_rfl) (fun _ _ _ h => h) (Or.inl ⟨by kernel_rfl, ?_⟩) hS0 ?_; rotate_left 1; (focus (intro u hu; (try dsimp only at hu); go_simp; try with_reducible rfl))
  try simp only [Act.put, List.getElem_toArray, List.getElem_cons_zero, List.getElem_cons_succ, List.setIfInBounds_toArray, List.set_cons_zero, List.set_cons_succ]
  refine HeldBut.take (i := 6) (v := ?_) rfl (by kernel_rfl) (by kernel_rfl) (by kernel_rfl) (by kernel_rfl) (fun _ _ _ h => h) (Or.inl ⟨by kernel_rfl, ?_⟩) hS0 ?_; rotate_left 1; (focus (intro u hu; (try dsimp only at hu); go_simp; try with_reducible rfl))
  try simp only [Act.put, List.getElem_toArray, List.getElem_cons_zero, List.getElem_cons_succ, List.setIfInBounds_toArray, List.set_cons_zero, List.set_cons_succ]
  refine HeldBut.take (i := 7) (v := ?_) rfl (by kernel_rfl) (by kernel_rfl) (by kernel_rfl) (by kernel_rfl) (fun _ _ _ h => h) (Or.inl ⟨by kernel_rfl, ?_⟩) hS0 ?_; rotate_left 1; (focus (intro u hu; (try dsimp only at hu); go_simp; try with_reducible rfl))
  try simp only [Act.put, List.getElem_toArray, List.getElem_cons_zero, List.getElem_cons_succ, List.setIfInBounds_toArray, List.set_cons_zero, List.set_cons_succ]
  refine HeldBut.take (i := 8) (v := ?_) rfl (by kernel_rfl) (by kernel_rfl) (by kernel_rfl) (by kernel_rfl) (fun _ _ _ h => h) (Or.inl ⟨by kernel_rfl, ?_⟩) hS0 ?_; rotate_left 1; (focus (intro u hu; (try dsimp only at hu); go_simp; try with_reducible rfl))
  try simp only [Act.put, List.getElem_toArray, List.getElem_cons_zero, List.getElem_cons_succ, List.setIfInBounds_toArray, List.set_cons_zero, List.set_cons_succ]
  refine HeldBut.take (i := 9) (v := ?_) rfl (by kernel_rfl) (by kernel_rfl) (by kernel_rfl) (by kernel_rfl) (fun _ _ _ h => h) (Or.inl ⟨by kernel_rfl, ?_⟩) hS0 ?_; rotate_left 1; (focus (intro u hu; (try dsimp only at hu); go_simp; try with_reducible rfl))
  try simp only [Act.put, List.getElem_toArray, List.getElem_cons_zero, List.getElem_cons_succ, List.setIfInBounds_toArray, List.set_cons_zero, List.set_cons_succ]
  obtain ⟨t0, t1, t2, t3, t4, t5, t6, t7, t8, t9⟩ := b3.c10
  have tf := b3.frozen
  refine HeldBut.one (i := 10) (by kernel_rfl) ?_
  refine HeldBut.step (i := 10) rfl (fun K hK => ?_)
  try simp only [List.getElem_toArray, List.getElem_cons_zero, List.getElem_cons_succ]
  go_simp
  have x9 := ((Ext.refl [wb + 1 + 1] w3).setCell (p := ⟨wb + 1 + 1, 0, none⟩) (.inl (by simp)) (.int .u64 (T.n.s : Int))).setCell (p := ⟨wb + 1 + 1, 1, none⟩) (.inl (by simp)) (.slice a3 m3 c3)
  have c3' := ((b3).set 0 (.int .u64 (T.n.s : Int))).set 1 (.slice a3 m3 c3)
  simp only [List.set_cons_zero, List.set_cons_succ] at c3'
  have c1' := b1.ext x9 (by simp; omega)
  have c2' := b2.ext x9 (by simp)
  have hO4 := hO3.other b3 (by decide) (by decide) x9
  have hI4 := hI3.keep x9 (own_ne hI3.2.2.2.2 b3 (by decide))
  have xg := xf.trans x9
  refine hK.out _ _ (fun _ => ⟨c1'.c8, c2'.c2⟩) ?_; clear hK K
  try simp only [Act.put, List.getElem_toArray, List.getElem_cons_zero, List.getElem_cons_succ, List.setIfInBounds_toArray, List.set_cons_zero, List.set_cons_succ]
  clear hS0 x9 xf b1 b2 b3 t0 t1 t2 t3 t4 t5 t6 t7 t8 t9 tf hO3 hI3
  generalize ((w3).setCell ⟨wb + 1 + 1, 0, none⟩ (.int .u64 (T.n.s : Int))).setCell ⟨wb + 1 + 1, 1, none⟩ (.slice a3 m3 c3) = S0 at *
  have b1 := c1'; have b2 := c2'; have b3 := c3'; have hO3 := hO4; have xf := xg; clear c1' c2' c3' hO4 xg
  have hI3 := hI4; clear hI4
  have hS0 : ((S0.cell? ⟨wb, 0, none⟩ = some (.int .i64 o.kind) ∧ S0.cell? ⟨wb, 1, none⟩ = some (.int .i64 o.fr) ∧ S0.cell? ⟨wb, 2, none⟩ = some (.int .i64 o.tt) ∧ S0.cell? ⟨wb, 3, none⟩ = some (.int .i64 o.at_) ∧ S0.cell? ⟨wb, 4, none⟩ = some (.int .i64 o.place) ∧ S0.cell? ⟨wb, 5, none⟩ = some (.bool o.other) ∧ S0.cell? ⟨wb, 6, none⟩ = some (.int .u8 (o.by_.toNat : Int)) ∧ S0.cell? ⟨wb, 7, none⟩ = some (.slice a o.bs.length c)) ∧ (S0.cell? ⟨wb + 1, 0, none⟩ = some (.int .u64 (s : Int)) ∧ S0.cell? ⟨wb + 1, 1, none⟩ = some (.slice an l.length cn))) := ⟨b1.c8, b2.c2⟩
  refine HeldBut.take (i := 11) (v := ?_) rfl (by kernel_rfl) (by kernel_rfl) (by kernel_rfl) (by kernel_rfl) (fun _ _ _ h => h) (Or.inl ⟨by kernel_rfl, ?_⟩) hS0 ?_; rotate_left 1; (focus (intro u hu; (try dsimp only at hu); go_simp; try with_reducible rfl))
  try simp only [Act.put, List.getElem_toArray, List.getElem_cons_zero, List.getElem_cons_succ, List.setIfInBounds_toArray, List.set_cons_zero, List.set_cons_succ]
  obtain ⟨t0, t1, t2, t3, t4, t5, t6, t7, t8, t9⟩ := b3.c10
  have tf := b3.frozen
  refine HeldBut.one (i := 12) (by kernel_rfl) ?_
  refine HeldBut.step (i := 12) rfl (fun K hK => ?_)
  try simp only [List.getElem_toArray, List.getElem_cons_zero, List.getElem_cons_succ]
  go_simp
  have x9 := (((((Ext.refl [wb + 1 + 1] S0).setCell (p := ⟨wb + 1 + 1, 3, none⟩) (.inl (by simp)) (.int .u64 (rn : Int))).setCell (p := ⟨wb + 1 + 1, 4, none⟩) (.inl (by simp)) (.int .i64 rf)).setCell (p := ⟨wb + 1 + 1, 5, none⟩) (.inl (by simp)) (.int .i64 rt)).setCell (p := ⟨wb + 1 + 1, 6, none⟩) (.inl (by simp)) (.slice ra T.p.bs.length rc)).setCell (p := ⟨wb + 1 + 1, 7, none⟩) (.inl (by simp)) (.bool rsp)
  have c3' := (((((b3).set 3 (.int .u64 (rn : Int))).set 4 (.int .i64 rf)).set 5 (.int .i64 rt)).set 6 (.slice ra T.p.bs.length rc)).set 7 (.bool rsp)
  simp only [List.set_cons_zero, List.set_cons_succ] at c3'
  have c1' := b1.ext x9 (by simp; omega)
  have c2' := b2.ext x9 (by simp)
  have hO4 := hO3.other b3 (by decide) (by decide) x9
  have hI4 := hI3.keep x9 (own_ne hI3.2.2.2.2 b3 (by decide))
  have xg := xf.trans x9
  refine hK.out _ _ (fun _ => ⟨c1'.c8, c2'.c2⟩) ?_; clear hK K
  try simp only [Act.put, List.getElem_toArray, List.getElem_cons_zero, List.getElem_cons_succ, List.setIfInBounds_toArray, List.set_cons_zero, List.set_cons_succ]
  clear hS0 x9 xf b1 b2 b3 t0 t1 t2 t3 t4 t5 t6 t7 t8 t9 tf hO3 hI3
  generalize (((((S0).setCell ⟨wb + 1 + 1, 3, none⟩ (.int .u64 (rn : Int))).setCell ⟨wb + 1 + 1, 4, none⟩ (.int .i64 rf)).setCell ⟨wb + 1 + 1, 5, none⟩ (.int .i64 rt)).setCell ⟨wb + 1 + 1, 6, none⟩ (.slice ra T.p.bs.length rc)).setCell ⟨wb + 1 + 1, 7, none⟩ (.bool rsp) = S1 at *
  have b1 := c1'; have b2 := c2'; have b3 := c3'; have hO3 := hO4; have xf := xg; clear c1' c2' c3' hO4 xg
  have hI3 := hI4; clear hI4
  have hS0 : ((S1.cell? ⟨wb, 0, none⟩ = some (.int .i64 o.kind) ∧ S1.cell? ⟨wb, 1, none⟩ = some (.int .i64 o.fr) ∧ S1.cell? ⟨wb, 2, none⟩ = some (.int .i64 o.tt) ∧ S1.cell? ⟨wb, 3, none⟩ = some (.int .i64 o.at_) ∧ S1.cell? ⟨wb, 4, none⟩ = some (.int .i64 o.place) ∧ S1.cell? ⟨wb, 5, none⟩ = some (.bool o.other) ∧ S1.cell? ⟨wb, 6, none⟩ = some (.int .u8 (o.by_.toNat : Int)) ∧ S1.cell? ⟨wb, 7, none⟩ = some (.slice a o.bs.length c)) ∧ (S1.cell? ⟨wb + 1, 0, none⟩ = some (.int .u64 (s : Int)) ∧ S1.cell? ⟨wb + 1, 1, none⟩ = some (.slice an l.length cn))) := ⟨b1.c8, b2.c2⟩
  refine HeldBut.take (i := 13) (v := ?_) rfl (by kernel_rfl) (by kernel_rfl) (by kernel_rfl) (by kernel_rfl) (fun _ _ _ h => h) (Or.inl ⟨by kernel_rfl, ?_⟩) hS0 ?_; rotate_left 1; (focus (intro u hu; (try dsimp only at hu); go_simp; try with_reducible rfl))
  try simp only [Act.put, List.getElem_toArray, List.getElem_cons_zero, List.getElem_cons_succ, List.setIfInBounds_toArray, List.set_cons_zero, List.set_cons_succ]
  obtain ⟨t0, t1, t2, t3, t4, t5, t6, t7, t8, t9⟩ := b3.c10
  have tf := b3.frozen
  refine HeldBut.one (i := 14) (by kernel_rfl) ?_
  refine HeldBut.step (i := 14) rfl (fun K hK => ?_)
  try simp only [List.getElem_toArray, List.getElem_cons_zero, List.getElem_cons_succ]
  go_simp
  have x9 := (Ext.refl [wb + 1 + 1] S1).setCell (p := ⟨wb + 1 + 1, 9, none⟩) (.inl (by simp)) (.int .i64 T.e)
  have c3' := (b3).set 9 (.int .i64 T.e)
  simp only [List.set_cons_zero, List.set_cons_succ] at c3'
  have c1' := b1.ext x9 (by simp; omega)
  have c2' := b2.ext x9 (by simp)
  have hO4 := hO3.other b3 (by decide) (by decide) x9
  have hI4 := hI3.keep x9 (own_ne hI3.2.2.2.2 b3 (by decide))
  have xg := xf.trans x9
  refine hK.out _ _ (fun _ => ⟨c1'.c8, c2'.c2⟩) ?_; clear hK K
  try simp only [Act.put, List.getElem_toArray, List.getElem_cons_zero, List.getElem_cons_succ, List.setIfInBounds_toArray, List.set_cons_zero, List.set_cons_succ]
  clear hS0 x9 xf b1 b2 b3 t0 t1 t2 t3 t4 t5 t6 t7 t8 t9 tf hO3 hI3
  generalize (S1).setCell ⟨wb + 1 + 1, 9, none⟩ (.int .i64 T.e) = S2 at *
  have b1 := c1'; have b2 := c2'; have b3 := c3'; have hO3 := hO4; have xf := xg; clear c1' c2' c3' hO4 xg
  have hI3 := hI4; clear hI4
  have hS0 : ((S2.cell? ⟨wb, 0, none⟩ = some (.int .i64 o.kind) ∧ S2.cell? ⟨wb, 1, none⟩ = some (.int .i64 o.fr) ∧ S2.cell? ⟨wb, 2, none⟩ = some (.int .i64 o.tt) ∧ S2.cell? ⟨wb, 3, none⟩ = some (.int .i64 o.at_) ∧ S2.cell? ⟨wb, 4, none⟩ = some (.int .i64 o.place) ∧ S2.cell? ⟨wb, 5, none⟩ = some (.bool o.other) ∧ S2.cell? ⟨wb, 6, none⟩ = some (.int .u8 (o.by_.toNat : Int)) ∧ S2.cell? ⟨wb, 7, none⟩ = some (.slice a o.bs.length c)) ∧ (S2.cell? ⟨wb + 1, 0, none⟩ = some (.int .u64 (s : Int)) ∧ S2.cell? ⟨wb + 1, 1, none⟩ = some (.slice an l.length cn))) := ⟨b1.c8, b2.c2⟩
  refine HeldBut.done (by kernel_rfl) ?_ _
  obtain ⟨t0, t1, t2, t3, t4, t5, t6, t7, t8, t9⟩ := b3.c10
  have tf := b3.frozen
  clear hS0 b1 b2
  go_wp2_with (fail)
  have xz := ((((((((((Ext.refl [wb + 1 + 1] S2).setCell (p := ⟨wb + 1 + 1, 0, none⟩) (.inl (by simp)) (.int .u64 (T.n.s : Int))).setCell (p := ⟨wb + 1 + 1, 1, none⟩) (.inl (by simp)) (.slice a3 m3 c3)).setCell (p := ⟨wb + 1 + 1, 2, none⟩) (.inl (by simp)) (.int .u64 0)).setCell (p := ⟨wb + 1 + 1, 3, none⟩) (.inl (by simp)) (.int .u64 (rn : Int))).setCell (p := ⟨wb + 1 + 1, 4, none⟩) (.inl (by simp)) (.int .i64 rf)).setCell (p := ⟨wb + 1 + 1, 5, none⟩) (.inl (by simp)) (.int .i64 rt)).setCell (p := ⟨wb + 1 + 1, 6, none⟩) (.inl (by simp)) (.slice ra T.p.bs.length rc)).setCell (p := ⟨wb + 1 + 1, 7, none⟩) (.inl (by simp)) (.bool rsp)).setCell (p := ⟨wb + 1 + 1, 8, none⟩) (.inl (by simp)) (.int .i64 0)).setCell (p := ⟨wb + 1 + 1, 9, none⟩) (.inl (by simp)) (.int .i64 T.e)
  have b5 := ((((((((((b3).set 0 (.int .u64 (T.n.s : Int))).set 1 (.slice a3 m3 c3)).set 2 (.int .u64 0)).set 3 (.int .u64 (rn : Int))).set 4 (.int .i64 rf)).set 5 (.int .i64 rt)).set 6 (.slice ra T.p.bs.length rc)).set 7 (.bool rsp)).set 8 (.int .i64 0)).set 9 (.int .i64 T.e)
  simp only [List.set_cons_zero, List.set_cons_succ] at b5
  have hO6 := hO3.other b3 (by decide) (by decide) xz
  have hI4 := hI3.keep xz (own_ne hI3.2.2.2.2 b3 (by decide))
  refine ret_cell Try.results11 rfl b5 Try.underlying36 rfl told_info rfl ⟨.slice a3 m3 c3, rs3, ⟨rn, rf, rt, .slice ra T.p.bs.length rc, rsp⟩, ⟨_, _, _, rfl⟩, rfl, hO6.mono (by rw [HWB.out]; have := HSZ.out; omega), (hI4.mono (by rw [HWB.out]; have := HSZ.out; omega)), hA3, hE.trans' (xf.trans xz) (fun i hi => .inr (by have := HWB.out; simp at hi; omega))⟩
set_option maxRecDepth 100000 in
set_option maxHeartbeats 4000000 in
theorem run_spoil (w : World) (o : OpR) (a : Option Addr) (c : Nat) (h : o.in64) (hk : o.knd = 7) (s : Nat) (v : Value) (l : List Par) (hP : Ps w v l) (hll : l.length ≤ 100000) :
    Calls Try.prog 11 #[OV o a c, NV s v] w fun e w' => ∃ v' rs', (∃ a' n' c', v' = .slice a' n' c') ∧ e = .returned (.agg #[.int .u64 ((ofM ⟨s, l⟩ (spoilM ⟨s, l⟩ (o.num l) o.place o.by_)).n.s : Int), v', .int .u64 0, .int .u64 0, .int .i64 0, .int .i64 0, .slice none 0 0, .bool false, .int .i64 0, .int .i64 (ofM ⟨s, l⟩ (spoilM ⟨s, l⟩ (o.num l) o.place o.by_)).e]) ∧ OPs w.heap.size w' v' (ofM ⟨s, l⟩ (spoilM ⟨s, l⟩ (o.num l) o.place o.by_)).n.ps rs' ∧ Ext [] w w' := by
  obtain ⟨an, cn, rfl⟩ := hP.shape
  have x1 := (Ext.refl [] w).alloc (.cells #[.int .i64 o.kind, .int .i64 o.fr, .int .i64 o.tt, .int .i64 o.at_, .int .i64 o.place, .bool o.other, .int .u8 (o.by_.toNat : Int), .slice a o.bs.length c] 31)
  have x2 := (Ext.refl [] (w.alloc (.cells #[.int .i64 o.kind, .int .i64 o.fr, .int .i64 o.tt, .int .i64 o.at_, .int .i64 o.place, .bool o.other, .int .u8 (o.by_.toNat : Int), .slice a o.bs.length c] 31))).alloc (.cells #[.int .u64 (s : Int), .slice an l.length cn] 25)
  have x3 := (Ext.refl [] ((w.alloc (.cells #[.int .i64 o.kind, .int .i64 o.fr, .int .i64 o.tt, .int .i64 o.at_, .int .i64 o.place, .bool o.other, .int .u8 (o.by_.toNat : Int), .slice a o.bs.length c] 31)).alloc (.cells #[.int .u64 (s : Int), .slice an l.length cn] 25))).alloc (.cells #[.int .u64 0, .slice none 0 0, .int .u64 0, .int .u64 0, .int .i64 0, .int .i64 0, .slice none 0 0, .bool false, .int .i64 0, .int .i64 0] 36)
  have b1 := (Blk.new w [.int .i64 o.kind, .int .i64 o.fr, .int .i64 o.tt, .int .i64 o.at_, .int .i64 o.place, .bool o.other, .int .u8 (o.by_.toNat : Int), .slice a o.bs.length c] 31).ext (x2.trans x3) (by simp)
  have b2 := (Blk.new (w.alloc (.cells #[.int .i64 o.kind, .int .i64 o.fr, .int .i64 o.tt, .int .i64 o.at_, .int .i64 o.place, .bool o.other, .int .u8 (o.by_.toNat : Int), .slice a o.bs.length c] 31)) [.int .u64 (s : Int), .slice an l.length cn] 25).ext x3 (by simp)
  have b3 := Blk.new ((w.alloc (.cells #[.int .i64 o.kind, .int .i64 o.fr, .int .i64 o.tt, .int .i64 o.at_, .int .i64 o.place, .bool o.other, .int .u8 (o.by_.toNat : Int), .slice a o.bs.length c] 31)).alloc (.cells #[.int .u64 (s : Int), .slice an l.length cn] 25)) [.int .u64 0, .slice none 0 0, .int .u64 0, .int .u64 0, .int .i64 0, .int .i64 0, .slice none 0 0, .bool false, .int .i64 0, .int .i64 0] 36
  have hE := (x1.trans x2).trans x3
  simp only [World.size_alloc] at b2 b3
  have hP := hP.ext hE
  have kd := fun w' => kind_any w' o a c h
  rw [hk] at kd
  have nm := fun w' (x : Ext [] (((w.alloc (.cells #[.int .i64 o.kind, .int .i64 o.fr, .int .i64 o.tt, .int .i64 o.at_, .int .i64 o.place, .bool o.other, .int .u8 (o.by_.toNat : Int), .slice a o.bs.length c] 31)).alloc (.cells #[.int .u64 (s : Int), .slice an l.length cn] 25)).alloc (.cells #[.int .u64 0, .slice none 0 0, .int .u64 0, .int .u64 0, .int .i64 0, .int .i64 0, .slice none 0 0, .bool false, .int .i64 0, .int .i64 0] 36)) w') => num_any w' o a c h s _ l (hP.ext x) hll
  have ls := fun w' (x : Ext [] (((w.alloc (.cells #[.int .i64 o.kind, .int .i64 o.fr, .int .i64 o.tt, .int .i64 o.at_, .int .i64 o.place, .bool o.other, .int .u8 (o.by_.toNat : Int), .slice a o.bs.length c] 31)).alloc (.cells #[.int .u64 (s : Int), .slice an l.length cn] 25)).alloc (.cells #[.int .u64 0, .slice none 0 0, .int .u64 0, .int .u64 0, .int .i64 0, .int .i64 0, .slice none 0 0, .bool false, .int .i64 0, .int .i64 0] 36)) w') => Spoil_any w' s (o.num l) _ l o.place o.by_ (hP.ext x)
  generalize ofM ⟨s, l⟩ (spoilM ⟨s, l⟩ (o.num l) o.place o.by_) = T at *
  generalize o.num l = num at *
  have hsz : (((w.alloc (.cells #[.int .i64 o.kind, .int .i64 o.fr, .int .i64 o.tt, .int .i64 o.at_, .int .i64 o.place, .bool o.other, .int .u8 (o.by_.toNat : Int), .slice a o.bs.length c] 31)).alloc (.cells #[.int .u64 (s : Int), .slice an l.length cn] 25)).alloc (.cells #[.int .u64 0, .slice none 0 0, .int .u64 0, .int .u64 0, .int .i64 0, .int .i64 0, .slice none 0 0, .bool false, .int .i64 0, .int .i64 0] 36)).heap.size = w.heap.size + 3 := by simp
  have HSZ := Lib.hid hsz
  clear x1 x2 x3 h hk hP hsz
  obtain ⟨k0, k1, k2, k3, k4, k5, k6, k7⟩ := b1.c8
  obtain ⟨n0, n1⟩ := b2.c2
  go_enter Try.func11, Try.ntmps11
  go_upto_region 1 with (fail)
  generalize (((w.alloc (.cells #[.int .i64 o.kind, .int .i64 o.fr, .int .i64 o.tt, .int .i64 o.at_, .int .i64 o.place, .bool o.other, .int .u8 (o.by_.toNat : Int), .slice a o.bs.length c] 31)).alloc (.cells #[.int .u64 (s : Int), .slice an l.length cn] 25)).alloc (.cells #[.int .u64 0, .slice none 0 0, .int .u64 0, .int .u64 0, .int .i64 0, .int .i64 0, .slice none 0 0, .bool false, .int .i64 0, .int .i64 0] 36)) = W at *
  generalize hwb : w.heap.size = wb at *
  have HWB := Lib.hid hwb
  clear hwb
  go_upto_region 2 with (go_at_call 29; (with_reducible refine (kd _).mono ?_); rintro e w1 ⟨rfl, x1⟩)
  have xd := x1.trans (Ext.refl [] w1).drew
  have c1' := b1.ext xd (by simp)
  have c2' := b2.ext xd (by simp)
  have c3' := b3.ext xd (by simp)
  have hS0 : ((w1.drew.cell? ⟨wb, 0, none⟩ = some (.int .i64 o.kind) ∧ w1.drew.cell? ⟨wb, 1, none⟩ = some (.int .i64 o.fr) ∧ w1.drew.cell? ⟨wb, 2, none⟩ = some (.int .i64 o.tt) ∧ w1.drew.cell? ⟨wb, 3, none⟩ = some (.int .i64 o.at_) ∧ w1.drew.cell? ⟨wb, 4, none⟩ = some (.int .i64 o.place) ∧ w1.drew.cell? ⟨wb, 5, none⟩ = some (.bool o.other) ∧ w1.drew.cell? ⟨wb, 6, none⟩ = some (.int .u8 (o.by_.toNat : Int)) ∧ w1.drew.cell? ⟨wb, 7, none⟩ = some (.slice a o.bs.length c)) ∧ (w1.drew.cell? ⟨wb + 1, 0, none⟩ = some (.int .u64 (s : Int)) ∧ w1.drew.cell? ⟨wb + 1, 1, none⟩ = some (.slice an l.length cn))) := ⟨c1'.c8, c2'.c2⟩
  refine region_but (fun u => ((u.cell? ⟨wb, 0, none⟩ = some (.int .i64 o.kind) ∧ u.cell? ⟨wb, 1, none⟩ = some (.int .i64 o.fr) ∧ u.cell? ⟨wb, 2, none⟩ = some (.int .i64 o.tt) ∧ u.cell? ⟨wb, 3, none⟩ = some (.int .i64 o.at_) ∧ u.cell? ⟨wb, 4, none⟩ = some (.int .i64 o.place) ∧ u.cell? ⟨wb, 5, none⟩ = some (.bool o.other) ∧ u.cell? ⟨wb, 6, none⟩ = some (.int .u8 (o.by_.toNat : Int)) ∧ u.cell? ⟨wb, 7, none⟩ = some (.slice a o.bs.length c)) ∧ (u.cell? ⟨wb + 1, 0, none⟩ = some (.int .u64 (s : Int)) ∧ u.cell? ⟨wb + 1, 1, none⟩ = some (.slice an l.length cn)))) [] 16 rfl (by kernel_rfl) ?_
  clear b1 b2 b3 k0 k1 k2 k3 k4 k5 k6 k7 n0 n1 x1
  generalize w1.drew = U0 at *
  refine HeldBut.take (i := 0) (v := ?_) rfl (by kernel_rfl) (by kernel_rfl) (by kernel_rfl) (by kernel_rfl) (fun _ _ _ h => h) (Or.inl ⟨by kernel_rfl, ?_⟩) hS0 ?_; rotate_left 1; (focus (intro u hu; (try dsimp only at hu); go_simp; try with_reducible rfl))
  try simp only [Act.put, List.getElem_toArray, List.getElem_cons_zero, List.getElem_cons_succ, List.setIfInBounds_toArray, List.set_cons_zero, List.set_cons_succ]
  refine HeldBut.take (i := 1) (v := ?_) rfl (by kernel_rfl) (by kernel_rfl) (by kernel_rfl) (by kernel_rfl) (fun _ _ _ h => h) (Or.inl ⟨by kernel_rfl, ?_⟩) hS0 ?_; rotate_left 1; (focus (intro u hu; (try dsimp only at hu); go_simp; try with_reducible rfl))
  try simp only [Act.put, List.getElem_toArray, List.getElem_cons_zero, List.getElem_cons_succ, List.setIfInBounds_toArray, List.set_cons_zero, List.set_cons_succ]
  refine HeldBut.take (i := 2) (v := ?_) rfl (by kernel_rfl) (by kernel_rfl) (by kernel_rfl) (by kernel_rfl) (fun _ _ _ h => h) (Or.inl ⟨by kernel_rfl, ?_⟩) hS0 ?_; rotate_left 1; (focus (intro u hu; (try dsimp only at hu); go_simp; try with_reducible rfl))
  try simp only [Act.put, List.getElem_toArray, List.getElem_cons_zero, List.getElem_cons_succ, List.setIfInBounds_toArray, List.set_cons_zero, List.set_cons_succ]
  refine HeldBut.take (i := 4) (v := ?_) rfl (by kernel_rfl) (by kernel_rfl) (by kernel_rfl) (by kernel_rfl) (fun _ _ _ h => h) (Or.inl ⟨by kernel_rfl, ?_⟩) hS0 ?_; rotate_left 1; (focus (intro u hu; (try dsimp only at hu); go_simp; try with_reducible rfl))
  try simp only [Act.put, List.getElem_toArray, List.getElem_cons_zero, List.getElem_cons_succ, List.setIfInBounds_toArray, List.set_cons_zero, List.set_cons_succ]
  refine HeldBut.take (i := 5) (v := ?_) rfl (by kernel_rfl) (by kernel_rfl) (by kernel_rfl) (by kernel_rfl) (fun _ _ _ h => h) (Or.inl ⟨by kernel_rfl, ?_⟩) hS0 ?_; rotate_left 1; (focus (intro u hu; (try dsimp only at hu); go_simp; try with_reducible rfl))
  try simp only [Act.put, List.getElem_toArray, List.getElem_cons_zero, List.getElem_cons_succ, List.setIfInBounds_toArray, List.set_cons_zero, List.set_cons_succ]
  refine HeldBut.take (i := 6) (v := ?_) rfl (by kernel_rfl) (by kernel_rfl) (by kernel_rfl) (by kernel_rfl) (fun _ _ _ h => h) (Or.inl ⟨by kernel_rfl, ?_⟩) hS0 ?_; rotate_left 1; (focus (intro u hu; (try dsimp only at hu); go_simp; try with_reducible rfl))
  try simp only [Act.put, List.getElem_toArray, List.getElem_cons_zero, List.getElem_cons_succ, List.setIfInBounds_toArray, List.set_cons_zero, List.set_cons_succ]
  refine HeldBut.take (i := 7) (v := ?_) rfl (by kernel_rfl) (by kernel_rfl) (by kernel_rfl) (by kernel_rfl) (fun _ _ _ h => h) (Or.inl ⟨by kernel_rfl, ?_⟩) hS0 ?_; rotate_left 1; (focus (intro u hu; (try dsimp only at hu); go_simp; try with_reducible rfl))
  try simp only [Act.put, List.getElem_toArray, List.getElem_cons_zero, List.getElem_cons_succ, List.setIfInBounds_toArray, List.set_cons_zero, List.set_cons_succ]
  refine HeldBut.one (i := 3) (by kernel_rfl) ?_
  refine HeldBut.step (i := 3) rfl (fun K hK => ?_)
  try simp only [List.getElem_toArray, List.getElem_cons_zero, List.getElem_cons_succ]
  go_simp
  go_at_call 28
  (with_reducible refine (nm _ xd).mono ?_)
  rintro e w2 ⟨rfl, x2⟩
  dsimp only
  have b1 := c1'.ext x2 (by simp)
  have b2 := c2'.ext x2 (by simp)
  have b3 := c3'.ext x2 (by simp)
  have xe := xd.trans x2
  refine hK.out _ _ (fun _ => ⟨b1.c8, b2.c2⟩) ?_; clear hK K
  try simp only [Act.put, List.getElem_toArray, List.getElem_cons_zero, List.getElem_cons_succ, List.setIfInBounds_toArray, List.set_cons_zero, List.set_cons_succ]
  clear hS0 x2 xd c1' c2' c3'
  have hS0 : ((w2.cell? ⟨wb, 0, none⟩ = some (.int .i64 o.kind) ∧ w2.cell? ⟨wb, 1, none⟩ = some (.int .i64 o.fr) ∧ w2.cell? ⟨wb, 2, none⟩ = some (.int .i64 o.tt) ∧ w2.cell? ⟨wb, 3, none⟩ = some (.int .i64 o.at_) ∧ w2.cell? ⟨wb, 4, none⟩ = some (.int .i64 o.place) ∧ w2.cell? ⟨wb, 5, none⟩ = some (.bool o.other) ∧ w2.cell? ⟨wb, 6, none⟩ = some (.int .u8 (o.by_.toNat : Int)) ∧ w2.cell? ⟨wb, 7, none⟩ = some (.slice a o.bs.length c)) ∧ (w2.cell? ⟨wb + 1, 0, none⟩ = some (.int .u64 (s : Int)) ∧ w2.cell? ⟨wb + 1, 1, none⟩ = some (.slice an l.length cn))) := ⟨b1.c8, b2.c2⟩
  refine HeldBut.one (i := 8) (by kernel_rfl) ?_
  refine HeldBut.step (i := 8) rfl (fun K hK => ?_)
  try simp only [List.getElem_toArray, List.getElem_cons_zero, List.getElem_cons_succ]
  go_simp
  go_at_call 36
  (with_reducible refine (ls _ xe).mono ?_)
  rintro e w3 ⟨v3, rs3, ⟨a3, m3, c3, rfl⟩, rfl, hO3, x3⟩
  dsimp only
  have c1' := b1.ext x3 (by simp)
  have c2' := b2.ext x3 (by simp)
  have c3' := b3.ext x3 (by simp)
  have hA := xe.size
  have xf : Ext [wb + 1 + 1] W w3 := (xe.trans x3).mono (by simp)
  refine hK.out _ _ (fun _ => ⟨c1'.c8, c2'.c2⟩) ?_; clear hK K
  try simp only [Act.put, List.getElem_toArray, List.getElem_cons_zero, List.getElem_cons_succ, List.setIfInBounds_toArray, List.set_cons_zero, List.set_cons_succ]
  clear hS0 x3 xe b1 b2 b3
  have b1 := c1'; have b2 := c2'; have b3 := c3'; clear c1' c2' c3'
  have hS0 : ((w3.cell? ⟨wb, 0, none⟩ = some (.int .i64 o.kind) ∧ w3.cell? ⟨wb, 1, none⟩ = some (.int .i64 o.fr) ∧ w3.cell? ⟨wb, 2, none⟩ = some (.int .i64 o.tt) ∧ w3.cell? ⟨wb, 3, none⟩ = some (.int .i64 o.at_) ∧ w3.cell? ⟨wb, 4, none⟩ = some (.int .i64 o.place) ∧ w3.cell? ⟨wb, 5, none⟩ = some (.bool o.other) ∧ w3.cell? ⟨wb, 6, none⟩ = some (.int .u8 (o.by_.toNat : Int)) ∧ w3.cell? ⟨wb, 7, none⟩ = some (.slice a o.bs.length c)) ∧ (w3.cell? ⟨wb + 1, 0, none⟩ = some (.int .u64 (s : Int)) ∧ w3.cell? ⟨wb + 1, 1, none⟩ = some (.slice an l.length cn))) := ⟨b1.c8, b2.c2⟩
  refine HeldBut.take (i := 9) (v := ?_) rfl (by kernel_rfl) (by kernel_rfl) (by kernel_rfl) (by kernel_rfl) (fun _ _ _ h => h) (Or.inl ⟨by kernel_rfl, ?_⟩) hS0 ?_; rotate_left 1; (focus (intro u hu; (try dsimp only at hu); go_simp; try with_reducible rfl))
  try simp only [Act.put, List.getElem_toArray, List.getElem_cons_zero, List.getElem_cons_succ, List.setIfInBounds_toArray, List.set_cons_zero, List.set_cons_succ]
  refine HeldBut.take (i := 10) (v := ?_) rfl (by kernel_rfl) (by kernel_rfl) (by kernel_rfl) (by kernel_rfl) (fun _ _ _ h => h) (Or.inl ⟨by kernel_rfl, ?_⟩) hS0 ?_; rotate_left 1; (focus (intro u hu; (try dsimp only at hu); go_simp; try with_reducible rfl))
  try simp only [Act.put, List.getElem_toArray, List.getElem_cons_zero, List.getElem_cons_succ, List.setIfInBounds_toArray, List.set_cons_zero, List.set_cons_succ]
  refine HeldBut.take (i := 11) (v := ?_) rfl (by kernel_rfl) (by kernel_rfl) (by kernel_rfl) (by kernel_rfl) (fun _ _ _ h => h) (Or.inl ⟨by kernel_rfl, ?_⟩) hS0 ?_; rotate_left 1; (focus (intro u hu; (try dsimp only at hu); go_simp; try with_reducible rfl))
  try simp only [Act.put, List.getElem_toArray, List.getElem_cons_zero, List.getElem_cons_succ, List.setIfInBounds_toArray, List.set_cons_zero, List.set_cons_succ]
  refine HeldBut.take (i := 12) (v := ?_) rfl (by kernel_rfl) (by kernel_rfl) (by kernel_rfl) (by kernel_rfl) (fun _ _ _ h => h) (Or.inl ⟨by kernel_rfl, ?_⟩) hS0 ?_; rotate_left 1; (focus (intro u hu; (try dsimp only at hu); go_simp; try with_reducible rfl))
  try simp only [Act.put, List.getElem_toArray, List.getElem_cons_zero, List.getElem_cons_succ, List.setIfInBounds_toArray, List.set_cons_zero, List.set_cons_succ]
  obtain ⟨t0, t1, t2, t3, t4, t5, t6, t7, t8, t9⟩ := b3.c10
  have tf := b3.frozen
  refine HeldBut.one (i := 13) (by kernel_rfl) ?_
  refine HeldBut.step (i := 13) rfl (fun K hK => ?_)
  try simp only [List.getElem_toArray, List.getElem_cons_zero, List.getElem_cons_succ]
  go_simp
  have x9 := ((Ext.refl [wb + 1 + 1] w3).setCell (p := ⟨wb + 1 + 1, 0, none⟩) (.inl (by simp)) (.int .u64 (T.n.s : Int))).setCell (p := ⟨wb + 1 + 1, 1, none⟩) (.inl (by simp)) (.slice a3 m3 c3)
  have c3' := ((b3).set 0 (.int .u64 (T.n.s : Int))).set 1 (.slice a3 m3 c3)
  simp only [List.set_cons_zero, List.set_cons_succ] at c3'
  have c1' := b1.ext x9 (by simp; omega)
  have c2' := b2.ext x9 (by simp)
  have hO4 := hO3.other b3 (by decide) (by decide) x9
  have xg := xf.trans x9
  refine hK.out _ _ (fun _ => ⟨c1'.c8, c2'.c2⟩) ?_; clear hK K
  try simp only [Act.put, List.getElem_toArray, List.getElem_cons_zero, List.getElem_cons_succ, List.setIfInBounds_toArray, List.set_cons_zero, List.set_cons_succ]
  clear hS0 x9 xf b1 b2 b3 t0 t1 t2 t3 t4 t5 t6 t7 t8 t9 tf hO3
  generalize ((w3).setCell ⟨wb + 1 + 1, 0, none⟩ (.int .u64 (T.n.s : Int))).setCell ⟨wb + 1 + 1, 1, none⟩ (.slice a3 m3 c3) = S0 at *
  have b1 := c1'; have b2 := c2'; have b3 := c3'; have hO3 := hO4; have xf := xg; clear c1' c2' c3' hO4 xg
  have hS0 : ((S0.cell? ⟨wb, 0, none⟩ = some (.int .i64 o.kind) ∧ S0.cell? ⟨wb, 1, none⟩ = some (.int .i64 o.fr) ∧ S0.cell? ⟨wb, 2, none⟩ = some (.int .i64 o.tt) ∧ S0.cell? ⟨wb, 3, none⟩ = some (.int .i64 o.at_) ∧ S0.cell? ⟨wb, 4, none⟩ = some (.int .i64 o.place) ∧ S0.cell? ⟨wb, 5, none⟩ = some (.bool o.other) ∧ S0.cell? ⟨wb, 6, none⟩ = some (.int .u8 (o.by_.toNat : Int)) ∧ S0.cell? ⟨wb, 7, none⟩ = some (.slice a o.bs.length c)) ∧ (S0.cell? ⟨wb + 1, 0, none⟩ = some (.int .u64 (s : Int)) ∧ S0.cell? ⟨wb + 1, 1, none⟩ = some (.slice an l.length cn))) := ⟨b1.c8, b2.c2⟩
  refine HeldBut.take (i := 14) (v := ?_) rfl (by kernel_rfl) (by kernel_rfl) (by kernel_rfl) (by kernel_rfl) (fun _ _ _ h => h) (Or.inl ⟨by kernel_rfl, ?_⟩) hS0 ?_; rotate_left 1; (focus (intro u hu; (try dsimp only at hu); go_simp; try with_reducible rfl))
  try simp only [Act.put, List.getElem_toArray, List.getElem_cons_zero, List.getElem_cons_succ, List.setIfInBounds_toArray, List.set_cons_zero, List.set_cons_succ]
  obtain ⟨t0, t1, t2, t3, t4, t5, t6, t7, t8, t9⟩ := b3.c10
  have tf := b3.frozen
  refine HeldBut.one (i := 15) (by kernel_rfl) ?_
  refine HeldBut.step (i := 15) rfl (fun K hK => ?_)
  try simp only [List.getElem_toArray, List.getElem_cons_zero, List.getElem_cons_succ]
  go_simp
  have x9 := (Ext.refl [wb + 1 + 1] S0).setCell (p := ⟨wb + 1 + 1, 9, none⟩) (.inl (by simp)) (.int .i64 T.e)
  have c3' := (b3).set 9 (.int .i64 T.e)
  simp only [List.set_cons_zero, List.set_cons_succ] at c3'
  have c1' := b1.ext x9 (by simp; omega)
  have c2' := b2.ext x9 (by simp)
  have hO4 := hO3.other b3 (by decide) (by decide) x9
  have xg := xf.trans x9
  refine hK.out _ _ (fun _ => ⟨c1'.c8, c2'.c2⟩) ?_; clear hK K
  try simp only [Act.put, List.getElem_toArray, List.getElem_cons_zero, List.getElem_cons_succ, List.setIfInBounds_toArray, List.set_cons_zero, List.set_cons_succ]
  clear hS0 x9 xf b1 b2 b3 t0 t1 t2 t3 t4 t5 t6 t7 t8 t9 tf hO3
  generalize (S0).setCell ⟨wb + 1 + 1, 9, none⟩ (.int .i64 T.e) = S1 at *
  have b1 := c1'; have b2 := c2'; have b3 := c3'; have hO3 := hO4; have xf := xg; clear c1' c2' c3' hO4 xg
  have hS0 : ((S1.cell? ⟨wb, 0, none⟩ = some (.int .i64 o.kind) ∧ S1.cell? ⟨wb, 1, none⟩ = some (.int .i64 o.fr) ∧ S1.cell? ⟨wb, 2, none⟩ = some (.int .i64 o.tt) ∧ S1.cell? ⟨wb, 3, none⟩ = some (.int .i64 o.at_) ∧ S1.cell? ⟨wb, 4, none⟩ = some (.int .i64 o.place) ∧ S1.cell? ⟨wb, 5, none⟩ = some (.bool o.other) ∧ S1.cell? ⟨wb, 6, none⟩ = some (.int .u8 (o.by_.toNat : Int)) ∧ S1.cell? ⟨wb, 7, none⟩ = some (.slice a o.bs.length c)) ∧ (S1.cell? ⟨wb + 1, 0, none⟩ = some (.int .u64 (s : Int)) ∧ S1.cell? ⟨wb + 1, 1, none⟩ = some (.slice an l.length cn))) := ⟨b1.c8, b2.c2⟩
  refine HeldBut.done (by kernel_rfl) ?_ _
  obtain ⟨t0, t1, t2, t3, t4, t5, t6, t7, t8, t9⟩ := b3.c10
  have tf := b3.frozen
  clear hS0 b1 b2
  go_wp2_with (fail)
  have xz := ((((((((((Ext.refl [wb + 1 + 1] S1).setCell (p := ⟨wb + 1 + 1, 0, none⟩) (.inl (by simp)) (.int .u64 (T.n.s : Int))).setCell (p := ⟨wb + 1 + 1, 1, none⟩) (.inl (by simp)) (.slice a3 m3 c3)).setCell (p := ⟨wb + 1 + 1, 2, none⟩) (.inl (by simp)) (.int .u64 0)).setCell (p := ⟨wb + 1 + 1, 3, none⟩) (.inl (by simp)) (.int .u64 0)).setCell (p := ⟨wb + 1 + 1, 4, none⟩) (.inl (by simp)) (.int .i64 0)).setCell (p := ⟨wb + 1 + 1, 5, none⟩) (.inl (by simp)) (.int .i64 0)).setCell (p := ⟨wb + 1 + 1, 6, none⟩) (.inl (by simp)) (.slice none 0 0)).setCell (p := ⟨wb + 1 + 1, 7, none⟩) (.inl (by simp)) (.bool false)).setCell (p := ⟨wb + 1 + 1, 8, none⟩) (.inl (by simp)) (.int .i64 0)).setCell (p := ⟨wb + 1 + 1, 9, none⟩) (.inl (by simp)) (.int .i64 T.e)
  have b5 := ((((((((((b3).set 0 (.int .u64 (T.n.s : Int))).set 1 (.slice a3 m3 c3)).set 2 (.int .u64 0)).set 3 (.int .u64 0)).set 4 (.int .i64 0)).set 5 (.int .i64 0)).set 6 (.slice none 0 0)).set 7 (.bool false)).set 8 (.int .i64 0)).set 9 (.int .i64 T.e)
  simp only [List.set_cons_zero, List.set_cons_succ] at b5
  have hO6 := hO3.other b3 (by decide) (by decide) xz
  refine ret_cell Try.results11 rfl b5 Try.underlying36 rfl told_info rfl ⟨.slice a3 m3 c3, rs3, ⟨_, _, _, rfl⟩, rfl, hO6.mono (by rw [HWB.out]; have := HSZ.out; omega), hE.trans' (xf.trans xz) (fun i hi => .inr (by have := HWB.out; simp at hi; omega))⟩
end Go.Proofs.Ytpdfmeaemlgniaa
