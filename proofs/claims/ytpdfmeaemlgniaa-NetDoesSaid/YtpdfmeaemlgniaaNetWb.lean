
/-
  Op.wants, whatever the op.
-/
import Derived.Test.YtpdfmeaemlgniaaNetWa
namespace Go.Proofs.Ytpdfmeaemlgniaa
open Go.RowKit
open Go.Lib hiding intOf
set_option linter.unusedVariables false
set_option linter.unusedSimpArgs false
set_option maxRecDepth 100000 in
set_option maxHeartbeats 4000000 in
theorem wants_drop (w : World) (o : OpR) (a : Option Addr) (c : Nat) (h : o.in64) (hk : o.knd = 5) (s : Nat) (v : Value) (l : List Par) (hP : Ps w v l) (hr : right ⟨s, l⟩ = true) (hll : l.length ≤ 20000) (hlb : ∀ q ∈ l, q.bs.length ≤ 100000) :
    Calls Try.prog 12 #[OV o a c, NV s v] w fun e w' => ∃ v', (∃ a' n' c', v' = .slice a' n' c') ∧ e = .returned (.agg #[.int .u64 ((dropM ⟨s, l⟩ o.fr o.tt).n.s : Int), v', .int .u64 0, .int .u64 0, .int .i64 0, .int .i64 0, .slice none 0 0, .bool false, .int .i64 ((dropM ⟨s, l⟩ o.fr o.tt).gone : Int), .int .i64 (dropM ⟨s, l⟩ o.fr o.tt).e]) ∧ Qs w.heap.size w' v' (dropM ⟨s, l⟩ o.fr o.tt).n.ps ∧ Ext [] w w' := by
  obtain ⟨an, cn, rfl⟩ := hP.shape
  have x1 := (Ext.refl [] w).alloc (.cells #[.int .i64 o.kind, .int .i64 o.fr, .int .i64 o.tt, .int .i64 o.at_, .int .i64 o.place, .bool o.other, .int .u8 (o.by_.toNat : Int), .slice a o.bs.length c] 31)
  have x2 := (Ext.refl [] (w.alloc (.cells #[.int .i64 o.kind, .int .i64 o.fr, .int .i64 o.tt, .int .i64 o.at_, .int .i64 o.place, .bool o.other, .int .u8 (o.by_.toNat : Int), .slice a o.bs.length c] 31))).alloc (.cells #[.int .u64 (s : Int), .slice an l.length cn] 25)
  have x3 := (Ext.refl [] ((w.alloc (.cells #[.int .i64 o.kind, .int .i64 o.fr, .int .i64 o.tt, .int .i64 o.at_, .int .i64 o.place, .bool o.other, .int .u8 (o.by_.toNat : Int), .slice a o.bs.length c] 31)).alloc (.cells #[.int .u64 (s : Int), .slice an l.length cn] 25))).alloc (.cells #[.int .u64 0, .slice none 0 0, .int .u64 0, .int .u64 0, .int .i64 0, .int .i64 0, .slice none 0 0, .bool false, .int .i64 0, .int .i64 0] 36)
  have b1 := (Blk.new w [.int .i64 o.kind, .int .i64 o.fr, .int .i64 o.tt, .int .i64 o.at_, .int .i64 o.place, .bool o.other, .int .u8 (o.by_.toNat : Int), .slice a o.bs.length c] 31).ext (x2.trans x3) (by simp)
  have b2 := (Blk.new (w.alloc (.cells #[.int .i64 o.kind, .int .i64 o.fr, .int .i64 o.tt, .int .i64 o.at_, .int .i64 o.place, .bool o.other, .int .u8 (o.by_.toNat : Int), .slice a o.bs.length c] 31)) [.int .u64 (s : Int), .slice an l.length cn] 25).ext x3 (by simp)
  have b3 := Blk.new ((w.alloc (.cells #[.int .i64 o.kind, .int .i64 o.fr, .int .i64 o.tt, .int .i64 o.at_, .int .i64 o.place, .bool o.other, .int .u8 (o.by_.toNat : Int), .slice a o.bs.length c] 31)).alloc (.cells #[.int .u64 (s : Int), .slice an l.length cn] 25)) [.int .u64 0, .slice none 0 0, .int .u64 0, .int .u64 0, .int .i64 0, .int .i64 0, .slice none 0 0, .bool false, .int .i64 0, .int .i64 0] 36
  have hE := (x1.trans x2).trans x3
  simp only [World.size_alloc] at b2 b3
  have hP := hP.ext hE
  have kd := fun w' => kind_any w' o a c h
  rw [hk] at kd
  have ls := fun w' (x : Ext [] (((w.alloc (.cells #[.int .i64 o.kind, .int .i64 o.fr, .int .i64 o.tt, .int .i64 o.at_, .int .i64 o.place, .bool o.other, .int .u8 (o.by_.toNat : Int), .slice a o.bs.length c] 31)).alloc (.cells #[.int .u64 (s : Int), .slice an l.length cn] 25)).alloc (.cells #[.int .u64 0, .slice none 0 0, .int .u64 0, .int .u64 0, .int .i64 0, .int .i64 0, .slice none 0 0, .bool false, .int .i64 0, .int .i64 0] 36)) w') => RefDrop_any w' s _ l o.fr o.tt (hP.ext x) hll hlb
  have rt := fun w' (x : Ext [] (((w.alloc (.cells #[.int .i64 o.kind, .int .i64 o.fr, .int .i64 o.tt, .int .i64 o.at_, .int .i64 o.place, .bool o.other, .int .u8 (o.by_.toNat : Int), .slice a o.bs.length c] 31)).alloc (.cells #[.int .u64 (s : Int), .slice an l.length cn] 25)).alloc (.cells #[.int .u64 0, .slice none 0 0, .int .u64 0, .int .u64 0, .int .i64 0, .int .i64 0, .slice none 0 0, .bool false, .int .i64 0, .int .i64 0] 36)) w') => Right_any w' s _ l (hP.ext x)
  rw [hr] at rt
  generalize dropM ⟨s, l⟩ o.fr o.tt = T at *
  have hsz : (((w.alloc (.cells #[.int .i64 o.kind, .int .i64 o.fr, .int .i64 o.tt, .int .i64 o.at_, .int .i64 o.place, .bool o.other, .int .u8 (o.by_.toNat : Int), .slice a o.bs.length c] 31)).alloc (.cells #[.int .u64 (s : Int), .slice an l.length cn] 25)).alloc (.cells #[.int .u64 0, .slice none 0 0, .int .u64 0, .int .u64 0, .int .i64 0, .int .i64 0, .slice none 0 0, .bool false, .int .i64 0, .int .i64 0] 36)).heap.size = w.heap.size + 3 := by simp
  have HSZ := Lib.hid hsz
  clear x1 x2 x3 h hk hP hsz hr hlb
  obtain ⟨k0, k1, k2, k3, k4, k5, k6, k7⟩ := b1.c8
  obtain ⟨n0, n1⟩ := b2.c2
  go_enter Try.func12, Try.ntmps12
  go_upto_region 1 with (fail)
  generalize (((w.alloc (.cells #[.int .i64 o.kind, .int .i64 o.fr, .int .i64 o.tt, .int .i64 o.at_, .int .i64 o.place, .bool o.other, .int .u8 (o.by_.toNat : Int), .slice a o.bs.length c] 31)).alloc (.cells #[.int .u64 (s : Int), .slice an l.length cn] 25)).alloc (.cells #[.int .u64 0, .slice none 0 0, .int .u64 0, .int .u64 0, .int .i64 0, .int .i64 0, .slice none 0 0, .bool false, .int .i64 0, .int .i64 0] 36)) = W at *
  generalize hwb : w.heap.size = wb at *
  have HWB := Lib.hid hwb
  clear hwb
  go_upto_region 15 with (first | (go_at_call 16; (with_reducible refine (rt _ (Ext.refl [] _)).mono ?_); rintro e w0 ⟨rfl, x0⟩; have k0 := cells_ext x0 k0; have k1 := cells_ext x0 k1; have k2 := cells_ext x0 k2; have k3 := cells_ext x0 k3; have k4 := cells_ext x0 k4; have k5 := cells_ext x0 k5; have k6 := cells_ext x0 k6; have k7 := cells_ext x0 k7; have n0 := cells_ext x0 n0; have n1 := cells_ext x0 n1) | (go_at_call 29; (with_reducible refine (kd _).mono ?_); rintro e w1 ⟨rfl, x1⟩; have k1 := cells_ext x1 k1; have k2 := cells_ext x1 k2; have n0 := cells_ext x1 n0; have n1 := cells_ext x1 n1; have x1 := x0.trans x1))
  go_upto_region 18 with (go_at_call 42; (with_reducible refine (ls _ x1).mono ?_); rintro e w3 ⟨v3, ⟨a3, m3, c3, rfl⟩, rfl, hO3, x3⟩; have xe := x1.trans x3; have b3 := b3.ext xe (by simp); obtain ⟨t0, t1, t2, t3, t4, t5, t6, t7, t8, t9⟩ := b3.c10; have tf := b3.frozen)
  have hA := x1.size
  have x9 := ((((Ext.refl [wb + 1 + 1] w3).setCell (p := ⟨wb + 1 + 1, 0, none⟩) (.inl (by simp)) (.int .u64 (T.n.s : Int))).setCell (p := ⟨wb + 1 + 1, 1, none⟩) (.inl (by simp)) (.slice a3 m3 c3)).setCell (p := ⟨wb + 1 + 1, 8, none⟩) (.inl (by simp)) (.int .i64 (T.gone : Int))).setCell (p := ⟨wb + 1 + 1, 9, none⟩) (.inl (by simp)) (.int .i64 T.e)
  have b4 := ((((b3).set 0 (.int .u64 (T.n.s : Int))).set 1 (.slice a3 m3 c3)).set 8 (.int .i64 (T.gone : Int))).set 9 (.int .i64 T.e)
  simp only [List.set_cons_zero, List.set_cons_succ] at b4
  have hO4 := hO3.keep x9 (fun k hk => .inl (by have := HWB.out; have := HSZ.out; simp at hk; omega))
  generalize ((((w3).setCell ⟨wb + 1 + 1, 0, none⟩ (.int .u64 (T.n.s : Int))).setCell ⟨wb + 1 + 1, 1, none⟩ (.slice a3 m3 c3)).setCell ⟨wb + 1 + 1, 8, none⟩ (.int .i64 (T.gone : Int))).setCell ⟨wb + 1 + 1, 9, none⟩ (.int .i64 T.e) = S0 at *
  clear t0 t1 t2 t3 t4 t5 t6 t7 t8 t9 tf
  obtain ⟨t0, t1, t2, t3, t4, t5, t6, t7, t8, t9⟩ := b4.c10
  have tf := b4.frozen
  go_wp2_with (fail)
  have xz := ((((((((((Ext.refl [wb + 1 + 1] S0).setCell (p := ⟨wb + 1 + 1, 0, none⟩) (.inl (by simp)) (.int .u64 (T.n.s : Int))).setCell (p := ⟨wb + 1 + 1, 1, none⟩) (.inl (by simp)) (.slice a3 m3 c3)).setCell (p := ⟨wb + 1 + 1, 2, none⟩) (.inl (by simp)) (.int .u64 0)).setCell (p := ⟨wb + 1 + 1, 3, none⟩) (.inl (by simp)) (.int .u64 0)).setCell (p := ⟨wb + 1 + 1, 4, none⟩) (.inl (by simp)) (.int .i64 0)).setCell (p := ⟨wb + 1 + 1, 5, none⟩) (.inl (by simp)) (.int .i64 0)).setCell (p := ⟨wb + 1 + 1, 6, none⟩) (.inl (by simp)) (.slice none 0 0)).setCell (p := ⟨wb + 1 + 1, 7, none⟩) (.inl (by simp)) (.bool false)).setCell (p := ⟨wb + 1 + 1, 8, none⟩) (.inl (by simp)) (.int .i64 (T.gone : Int))).setCell (p := ⟨wb + 1 + 1, 9, none⟩) (.inl (by simp)) (.int .i64 T.e)
  have b5 := ((((((((((b4).set 0 (.int .u64 (T.n.s : Int))).set 1 (.slice a3 m3 c3)).set 2 (.int .u64 0)).set 3 (.int .u64 0)).set 4 (.int .i64 0)).set 5 (.int .i64 0)).set 6 (.slice none 0 0)).set 7 (.bool false)).set 8 (.int .i64 (T.gone : Int))).set 9 (.int .i64 T.e)
  simp only [List.set_cons_zero, List.set_cons_succ] at b5
  have hO6 := hO4.keep xz (fun k hk => .inl (by have := HWB.out; have := HSZ.out; simp at hk; omega))
  refine ret_cell Try.results12 rfl b5 Try.underlying36 rfl told_info rfl ⟨.slice a3 m3 c3, ⟨_, _, _, rfl⟩, rfl, hO6.mono (by rw [HWB.out]; have := HSZ.out; omega), hE.trans' (((xe.mono (by simp)).trans x9).trans xz) (fun i hi => .inr (by have := HWB.out; simp at hi; omega))⟩
set_option maxRecDepth 100000 in
set_option maxHeartbeats 4000000 in
theorem wants_wrong (w : World) (o : OpR) (a : Option Addr) (c : Nat) (s : Nat) (v : Value) (l : List Par) (hP : Ps w v l) (hr : right ⟨s, l⟩ = false) :
    Calls Try.prog 12 #[OV o a c, NV s v] w fun e w' => e = .returned (.agg #[.int .u64 0, .slice none 0 0, .int .u64 0, .int .u64 0, .int .i64 0, .int .i64 0, .slice none 0 0, .bool false, .int .i64 0, .int .i64 340]) ∧ Ext [] w w' := by
  obtain ⟨an, cn, rfl⟩ := hP.shape
  have x1 := (Ext.refl [] w).alloc (.cells #[.int .i64 o.kind, .int .i64 o.fr, .int .i64 o.tt, .int .i64 o.at_, .int .i64 o.place, .bool o.other, .int .u8 (o.by_.toNat : Int), .slice a o.bs.length c] 31)
  have x2 := (Ext.refl [] (w.alloc (.cells #[.int .i64 o.kind, .int .i64 o.fr, .int .i64 o.tt, .int .i64 o.at_, .int .i64 o.place, .bool o.other, .int .u8 (o.by_.toNat : Int), .slice a o.bs.length c] 31))).alloc (.cells #[.int .u64 (s : Int), .slice an l.length cn] 25)
  have x3 := (Ext.refl [] ((w.alloc (.cells #[.int .i64 o.kind, .int .i64 o.fr, .int .i64 o.tt, .int .i64 o.at_, .int .i64 o.place, .bool o.other, .int .u8 (o.by_.toNat : Int), .slice a o.bs.length c] 31)).alloc (.cells #[.int .u64 (s : Int), .slice an l.length cn] 25))).alloc (.cells #[.int .u64 0, .slice none 0 0, .int .u64 0, .int .u64 0, .int .i64 0, .int .i64 0, .slice none 0 0, .bool false, .int .i64 0, .int .i64 0] 36)
  have b2 := (Blk.new (w.alloc (.cells #[.int .i64 o.kind, .int .i64 o.fr, .int .i64 o.tt, .int .i64 o.at_, .int .i64 o.place, .bool o.other, .int .u8 (o.by_.toNat : Int), .slice a o.bs.length c] 31)) [.int .u64 (s : Int), .slice an l.length cn] 25).ext x3 (by simp)
  have b3 := Blk.new ((w.alloc (.cells #[.int .i64 o.kind, .int .i64 o.fr, .int .i64 o.tt, .int .i64 o.at_, .int .i64 o.place, .bool o.other, .int .u8 (o.by_.toNat : Int), .slice a o.bs.length c] 31)).alloc (.cells #[.int .u64 (s : Int), .slice an l.length cn] 25)) [.int .u64 0, .slice none 0 0, .int .u64 0, .int .u64 0, .int .i64 0, .int .i64 0, .slice none 0 0, .bool false, .int .i64 0, .int .i64 0] 36
  have hE := (x1.trans x2).trans x3
  simp only [World.size_alloc] at b2 b3
  have hP := hP.ext hE
  have rt := fun w' (x : Ext [] (((w.alloc (.cells #[.int .i64 o.kind, .int .i64 o.fr, .int .i64 o.tt, .int .i64 o.at_, .int .i64 o.place, .bool o.other, .int .u8 (o.by_.toNat : Int), .slice a o.bs.length c] 31)).alloc (.cells #[.int .u64 (s : Int), .slice an l.length cn] 25)).alloc (.cells #[.int .u64 0, .slice none 0 0, .int .u64 0, .int .u64 0, .int .i64 0, .int .i64 0, .slice none 0 0, .bool false, .int .i64 0, .int .i64 0] 36)) w') => Right_any w' s _ l (hP.ext x)
  rw [hr] at rt
  clear x1 x2 x3 hP hr
  obtain ⟨n0, n1⟩ := b2.c2
  go_enter Try.func12, Try.ntmps12
  go_upto_region 1 with (fail)
  generalize (((w.alloc (.cells #[.int .i64 o.kind, .int .i64 o.fr, .int .i64 o.tt, .int .i64 o.at_, .int .i64 o.place, .bool o.other, .int .u8 (o.by_.toNat : Int), .slice a o.bs.length c] 31)).alloc (.cells #[.int .u64 (s : Int), .slice an l.length cn] 25)).alloc (.cells #[.int .u64 0, .slice none 0 0, .int .u64 0, .int .u64 0, .int .i64 0, .int .i64 0, .slice none 0 0, .bool false, .int .i64 0, .int .i64 0] 36)) = W at *
  generalize hwb : w.heap.size = wb at *
  have HWB := Lib.hid hwb
  clear hwb
  go_upto_region 3 with (go_at_call 16; (with_reducible refine (rt _ (Ext.refl [] _)).mono ?_); rintro e w0 ⟨rfl, x0⟩; have b3 := b3.ext x0 (by simp); obtain ⟨t0, t1, t2, t3, t4, t5, t6, t7, t8, t9⟩ := b3.c10; have tf := b3.frozen)
  have x9 := (Ext.refl [wb + 1 + 1] w0).setCell (p := ⟨wb + 1 + 1, 9, none⟩) (.inl (by simp)) (.int .i64 340)
  have b4 := (b3).set 9 (.int .i64 340)
  simp only [List.set_cons_zero, List.set_cons_succ] at b4
  generalize (w0).setCell ⟨wb + 1 + 1, 9, none⟩ (.int .i64 340) = S0 at *
  clear t0 t1 t2 t3 t4 t5 t6 t7 t8 t9 tf
  obtain ⟨t0, t1, t2, t3, t4, t5, t6, t7, t8, t9⟩ := b4.c10
  have tf := b4.frozen
  go_wp2_with (fail)
  have xz := ((((((((((Ext.refl [wb + 1 + 1] S0).setCell (p := ⟨wb + 1 + 1, 0, none⟩) (.inl (by simp)) (.int .u64 0)).setCell (p := ⟨wb + 1 + 1, 1, none⟩) (.inl (by simp)) (.slice none 0 0)).setCell (p := ⟨wb + 1 + 1, 2, none⟩) (.inl (by simp)) (.int .u64 0)).setCell (p := ⟨wb + 1 + 1, 3, none⟩) (.inl (by simp)) (.int .u64 0)).setCell (p := ⟨wb + 1 + 1, 4, none⟩) (.inl (by simp)) (.int .i64 0)).setCell (p := ⟨wb + 1 + 1, 5, none⟩) (.inl (by simp)) (.int .i64 0)).setCell (p := ⟨wb + 1 + 1, 6, none⟩) (.inl (by simp)) (.slice none 0 0)).setCell (p := ⟨wb + 1 + 1, 7, none⟩) (.inl (by simp)) (.bool false)).setCell (p := ⟨wb + 1 + 1, 8, none⟩) (.inl (by simp)) (.int .i64 0)).setCell (p := ⟨wb + 1 + 1, 9, none⟩) (.inl (by simp)) (.int .i64 340)
  have b5 := ((((((((((b4).set 0 (.int .u64 0)).set 1 (.slice none 0 0)).set 2 (.int .u64 0)).set 3 (.int .u64 0)).set 4 (.int .i64 0)).set 5 (.int .i64 0)).set 6 (.slice none 0 0)).set 7 (.bool false)).set 8 (.int .i64 0)).set 9 (.int .i64 340)
  simp only [List.set_cons_zero, List.set_cons_succ] at b5
  exact ret_cell Try.results12 rfl b5 Try.underlying36 rfl told_info rfl ⟨rfl, hE.trans' (((x0.mono (by simp)).trans x9).trans xz) (fun i hi => .inr (by have := HWB.out; simp at hi; omega))⟩
def AnsW (w : World) (T : Told) : Ending → World → Prop := fun e w' => ∃ v' r, (∃ a' n' c', v' = .slice a' n' c') ∧ e = .returned (.agg #[.int .u64 (T.n.s : Int), v', .int .u64 (T.num : Int), .int .u64 (r.num : Int), .int .i64 r.fr, .int .i64 r.to, r.b, .bool r.sp, .int .i64 (T.gone : Int), .int .i64 T.e]) ∧ Qs w.heap.size w' v' T.n.ps ∧ OIs w.heap.size w' r T.p ∧ Ext [] w w'
theorem AnsW.plain {w w' : World} {T : Told} {e : Ending} (hp : T.p = zPar) (h : ∃ v', (∃ a' n' c', v' = .slice a' n' c') ∧ e = .returned (.agg #[.int .u64 (T.n.s : Int), v', .int .u64 (T.num : Int), .int .u64 0, .int .i64 0, .int .i64 0, .slice none 0 0, .bool false, .int .i64 (T.gone : Int), .int .i64 T.e]) ∧ Qs w.heap.size w' v' T.n.ps ∧ Ext [] w w') : AnsW w T e w' := by
  obtain ⟨v', h1, h2, h3, h4⟩ := h
  exact ⟨v', zRaw, h1, h2, h3, by rw [hp]; exact zRaw_is _ _, h4⟩
theorem wants_any (w : World) (o : OpR) (a : Option Addr) (c ob : Nat) (h : o.in64) (s : Nat) (v : Value) (l : List Par) (hP : Ps w v l) (hB : Bs w (.slice a o.bs.length c) ob o.bs) :
    Calls Try.prog 12 #[OV o a c, NV s v] w (AnsW w (o.tells s l)) := by
  cases hr : right ⟨s, l⟩
  · have hT : o.tells s l = { e := 340 } := by unfold OpR.tells ofM; rw [if_neg (by rw [hr]; decide)]
    rw [hT]
    refine (wants_wrong w o a c s v l hP hr).mono ?_
    rintro e w' ⟨rfl, x⟩
    exact AnsW.plain rfl ⟨.slice none 0 0, ⟨_, _, _, rfl⟩, rfl, Qs.nil _ _, x⟩
  · have hT : o.tells s l = o.does s l := by unfold OpR.tells ofM; rw [if_pos hr]
    rw [hT]
    have hrl := right_len hr
    have hs : s ≤ 1099511627776 := hrl.1
    have hll : l.length ≤ 20000 := hrl.2.1
    have hlb : ∀ q ∈ l, q.bs.length ≤ 100000 := fun q hq => by have := parOK_len (chk_num hrl.2.2 q hq).2.2; omega
    have hk := knd_lt o
    have fin : ∀ {T : Told}, o.does s l = T → Calls Try.prog 12 #[OV o a c, NV s v] w (AnsW w T) → Calls Try.prog 12 #[OV o a c, NV s v] w (AnsW w (o.does s l)) := fun e h => by rw [e]; exact h
    by_cases h0 : o.knd < 3
    · have h1 := sendM_rest ⟨s, l⟩ o.fr o.tt o.bts
      refine fin (T := sendM ⟨s, l⟩ o.fr o.tt o.bts) (by unfold OpR.does; rw [if_pos h0]) ?_
      rcases (show o.knd = 0 ∨ o.knd = 1 ∨ o.knd = 2 by omega) with hk | hk | hk
      · exact (wants_send0 w o a c ob h hk s v l hP hr hs hll hlb hB).mono fun e w' hh => AnsW.plain h1.2 (by rw [h1.1]; exact hh)
      · exact (wants_send1 w o a c ob h hk s v l hP hr hs hll hlb hB).mono fun e w' hh => AnsW.plain h1.2 (by rw [h1.1]; exact hh)
      · exact (wants_send2 w o a c ob h hk s v l hP hr hs hll hlb hB).mono fun e w' hh => AnsW.plain h1.2 (by rw [h1.1]; exact hh)
    · by_cases h3 : o.knd = 3
      · refine fin (T := comeM ⟨s, l⟩ (o.num l)) (by unfold OpR.does; rw [if_neg h0, if_pos h3]) ?_
        refine (wants_come w o a c h h3 s v l hP hr hs hll hlb).mono fun e w' hh => ?_
        have e1 : (comeM ⟨s, l⟩ (o.num l)).num = 0 := atM_num fun i p => rfl
        have e2 : (comeM ⟨s, l⟩ (o.num l)).gone = 0 := atM_gone fun i p => rfl
        unfold AnsW
        rw [e1, e2]
        exact hh
      · by_cases h4 : o.knd = 4
        · refine fin (T := { comeM ⟨s, l⟩ (o.num l) with p := zPar }) (by unfold OpR.does; rw [if_neg h0, if_neg h3, if_pos h4]) ?_
          refine (wants_lose w o a c h h4 s v l hP hr hs hll hlb).mono fun e w' hh => AnsW.plain rfl ?_
          have e1 : (comeM ⟨s, l⟩ (o.num l)).num = 0 := atM_num fun i p => rfl
          have e2 : (comeM ⟨s, l⟩ (o.num l)).gone = 0 := atM_gone fun i p => rfl
          dsimp only
          rw [e1, e2]
          exact hh
        · by_cases h5 : o.knd = 5
          · refine fin (T := dropM ⟨s, l⟩ o.fr o.tt) (by unfold OpR.does; rw [if_neg h0, if_neg h3, if_neg h4, if_pos h5]) ?_
            have h1 := dropM_rest ⟨s, l⟩ o.fr o.tt
            refine (wants_drop w o a c h h5 s v l hP hr hll hlb).mono fun e w' hh => AnsW.plain h1.2 ?_
            rw [h1.1]
            exact hh
          · by_cases h6 : o.knd = 6
            · refine fin (T := twinM ⟨s, l⟩ (o.num l)) (by unfold OpR.does; rw [if_neg h0, if_neg h3, if_neg h4, if_neg h5, if_pos h6]) ?_
              have e1 : (twinM ⟨s, l⟩ (o.num l)).gone = 0 := atM_gone fun i p => (addM_rest _ _).1
              have e2 : (twinM ⟨s, l⟩ (o.num l)).p = zPar := atM_p fun i p => (addM_rest _ _).2
              refine (wants_twin w o a c h h6 s v l hP hr hs hll hlb).mono fun e w' hh => AnsW.plain e2 ?_
              rw [e1]
              exact hh
            · have h7 : o.knd = 7 := by omega
              refine fin (T := spoilM ⟨s, l⟩ (o.num l) o.place o.by_) (by unfold OpR.does; rw [if_neg h0, if_neg h3, if_neg h4, if_neg h5, if_neg h6]) ?_
              have h1 := spoilM_rest ⟨s, l⟩ (o.num l) o.place o.by_
              refine (wants_spoil w o a c h h7 s v l hP hr hs hll hlb).mono fun e w' hh => AnsW.plain h1.2.2 ?_
              rw [h1.2.1, h1.1]
              exact hh
end Go.Proofs.Ytpdfmeaemlgniaa
