
/-
  Op.run of kinds 5 and 0 to 2.
-/
import Derived.Test.YtpdfmeaemlgniaaNetRun
namespace Go.Proofs.Ytpdfmeaemlgniaa
open Go.RowKit
open Go.Lib hiding intOf
set_option linter.unusedVariables false
set_option linter.unusedSimpArgs false
set_option maxRecDepth 100000 in
set_option maxHeartbeats 4000000 in
theorem run_drop (w : World) (o : OpR) (a : Option Addr) (c : Nat) (h : o.in64) (hk : o.knd = 5) (s : Nat) (v : Value) (l : List Par) (hP : Ps w v l) (hll : l.length ≤ 100000) :
    Calls Try.prog 11 #[OV o a c, NV s v] w fun e w' => ∃ v' rs', (∃ a' n' c', v' = .slice a' n' c') ∧ e = .returned (.agg #[.int .u64 ((ofM ⟨s, l⟩ (dropM ⟨s, l⟩ o.fr o.tt)).n.s : Int), v', .int .u64 0, .int .u64 0, .int .i64 0, .int .i64 0, .slice none 0 0, .bool false, .int .i64 ((ofM ⟨s, l⟩ (dropM ⟨s, l⟩ o.fr o.tt)).gone : Int), .int .i64 (ofM ⟨s, l⟩ (dropM ⟨s, l⟩ o.fr o.tt)).e]) ∧ OPs w.heap.size w' v' (ofM ⟨s, l⟩ (dropM ⟨s, l⟩ o.fr o.tt)).n.ps rs' ∧ Ext [] w w' := by
  obtain ⟨an, cn, rfl⟩ := hP.shape
  have x1 := (Ext.refl [] w).alloc (.cells #[.int .i64 o.kind, .int .i64 o.fr, .int .i64 o.tt, .int .i64 o.at_, .int .i64 o.place, .bool o.other, .int .u8 (o.by_.toNat : Int), .slice a o.bs.length c] 31)
  have x2 := (Ext.refl [] (w.alloc (.cells #[.int .i64 o.kind, .int .i64 o.fr, .int .i64 o.tt, .int .i64 o.at_, .int .i64 o.place, .bool o.other, .int .u8 (o.by_.toNat : Int), .slice a o.bs.length c] 31))).alloc (.cells #[.int .u64 (s : Int), .slice an l.length cn] 25)
  have x3 := (Ext.refl [] ((w.alloc (.cells #[.int .i64 o.kind, .int .i64 o.fr, .int .i64 o.tt, .int .i64 o.at_, .int .i64 o.place, .bool o.other, .int .u8 (o.by_.toNat : Int), .slice a o.bs.length c] 31)).alloc (.cells #[.int .u64 (s : Int), .slice an l.length cn] 25))).alloc (.cells #[.int .u64 0, .slice none 0 0, .int .u64 0, .int .u64 0, .int .i64 0, .int .i64 0, .slice none 0 0, .bool false, .int .i64 0, .int .i64 0] 36)
  have b1 := (Blk.new w [.int .i64 o.kind, .int .i64 o.fr, .int .i64 o.tt, .int .i64 o.at_, .int .i64 o.place, .bool o.other, .int .u8 (o.by_.toNat : Int), .slice a o.bs.length c] 31).ext (x2.trans x3) (by simp)
  have b2 := (Blk.new (w.alloc (.cells #[.int .i64 o.kind, .int .i64 o.fr, .int .i64 o.tt, .int .i64 o.at_, .int .i64 o.place, .bool o.other, .int .u8 (o.by_.toNat : Int), .slice a o.bs.length c] 31)) [.int .u64 (s : Int), .slice an l.length cn] 25).ext x3 (by simp)
  have b3 := Blk.new ((w.alloc (.cells #[.int .i64 o.kind, .int .i64 o.fr, .int .i64 o.tt, .int .i64 o.at_, .int .i64 o.place, .bool o.other, .int .u8 (o.by_.toNat : Int), .slice a o.bs.length c] 31)).alloc (.cells #[.int .u64 (s : Int), .slice an l.length cn] 25)) [.int .u64 0, .slice none 0 0, .int .u64 0, .int .u64 0, .int .i64 0, .int .i64 0, .slice none 0 0, .bool false, .int .i64 0, .int .i64 0] 36
  have hE := (x1.trans x2).trans x3
  simp only [World.size_alloc] at b2 b3
  have hP := hP.ext hE
  have kd := fun w' => kind_any w' o a c h
  rw [hk] at kd
  have ls := fun w' (x : Ext [] (((w.alloc (.cells #[.int .i64 o.kind, .int .i64 o.fr, .int .i64 o.tt, .int .i64 o.at_, .int .i64 o.place, .bool o.other, .int .u8 (o.by_.toNat : Int), .slice a o.bs.length c] 31)).alloc (.cells #[.int .u64 (s : Int), .slice an l.length cn] 25)).alloc (.cells #[.int .u64 0, .slice none 0 0, .int .u64 0, .int .u64 0, .int .i64 0, .int .i64 0, .slice none 0 0, .bool false, .int .i64 0, .int .i64 0] 36)) w') => Drop_any w' s _ l o.fr o.tt (hP.ext x)
  generalize ofM ⟨s, l⟩ (dropM ⟨s, l⟩ o.fr o.tt) = T at *
  have hsz : (((w.alloc (.cells #[.int .i64 o.kind, .int .i64 o.fr, .int .i64 o.tt, .int .i64 o.at_, .int .i64 o.place, .bool o.other, .int .u8 (o.by_.toNat : Int), .slice a o.bs.length c] 31)).alloc (.cells #[.int .u64 (s : Int), .slice an l.length cn] 25)).alloc (.cells #[.int .u64 0, .slice none 0 0, .int .u64 0, .int .u64 0, .int .i64 0, .int .i64 0, .slice none 0 0, .bool false, .int .i64 0, .int .i64 0] 36)).heap.size = w.heap.size + 3 := by simp
  have HSZ := Lib.hid hsz
  clear x1 x2 x3 h hk hP hsz
  obtain ⟨k0, k1, k2, k3, k4, k5, k6, k7⟩ := b1.c8
  obtain ⟨n0, n1⟩ := b2.c2
  go_enter Try.func11, Try.ntmps11
  go_upto_region 1 with (fail)
  generalize (((w.alloc (.cells #[.int .i64 o.kind, .int .i64 o.fr, .int .i64 o.tt, .int .i64 o.at_, .int .i64 o.place, .bool o.other, .int .u8 (o.by_.toNat : Int), .slice a o.bs.length c] 31)).alloc (.cells #[.int .u64 (s : Int), .slice an l.length cn] 25)).alloc (.cells #[.int .u64 0, .slice none 0 0, .int .u64 0, .int .u64 0, .int .i64 0, .int .i64 0, .slice none 0 0, .bool false, .int .i64 0, .int .i64 0] 36)) = W at *
  generalize hwb : w.heap.size = wb at *
  have HWB := Lib.hid hwb
  clear hwb
  go_upto_region 18 with (go_at_call 29; (with_reducible refine (kd _).mono ?_); rintro e w1 ⟨rfl, x1⟩; have k1 := cells_ext x1 k1; have k2 := cells_ext x1 k2; have n0 := cells_ext x1 n0; have n1 := cells_ext x1 n1)
  go_upto_region 21 with (go_at_call 40; (with_reducible refine (ls _ x1).mono ?_); rintro e w3 ⟨v3, rs3, ⟨a3, m3, c3, rfl⟩, rfl, hO3, x3⟩; have xe := x1.trans x3; have b3 := b3.ext xe (by simp); obtain ⟨t0, t1, t2, t3, t4, t5, t6, t7, t8, t9⟩ := b3.c10; have tf := b3.frozen)
  have hA := x1.size
  have x9 := ((((Ext.refl [wb + 1 + 1] w3).setCell (p := ⟨wb + 1 + 1, 0, none⟩) (.inl (by simp)) (.int .u64 (T.n.s : Int))).setCell (p := ⟨wb + 1 + 1, 1, none⟩) (.inl (by simp)) (.slice a3 m3 c3)).setCell (p := ⟨wb + 1 + 1, 8, none⟩) (.inl (by simp)) (.int .i64 (T.gone : Int))).setCell (p := ⟨wb + 1 + 1, 9, none⟩) (.inl (by simp)) (.int .i64 T.e)
  have b4 := ((((b3).set 0 (.int .u64 (T.n.s : Int))).set 1 (.slice a3 m3 c3)).set 8 (.int .i64 (T.gone : Int))).set 9 (.int .i64 T.e)
  simp only [List.set_cons_zero, List.set_cons_succ] at b4
  have hO4 := hO3.other b3 (by decide) (by decide) x9
  generalize ((((w3).setCell ⟨wb + 1 + 1, 0, none⟩ (.int .u64 (T.n.s : Int))).setCell ⟨wb + 1 + 1, 1, none⟩ (.slice a3 m3 c3)).setCell ⟨wb + 1 + 1, 8, none⟩ (.int .i64 (T.gone : Int))).setCell ⟨wb + 1 + 1, 9, none⟩ (.int .i64 T.e) = S0 at *
  clear t0 t1 t2 t3 t4 t5 t6 t7 t8 t9 tf
  obtain ⟨t0, t1, t2, t3, t4, t5, t6, t7, t8, t9⟩ := b4.c10
  have tf := b4.frozen
  go_wp2_with (fail)
  have xz := ((((((((((Ext.refl [wb + 1 + 1] S0).setCell (p := ⟨wb + 1 + 1, 0, none⟩) (.inl (by simp)) (.int .u64 (T.n.s : Int))).setCell (p := ⟨wb + 1 + 1, 1, none⟩) (.inl (by simp)) (.slice a3 m3 c3)).setCell (p := ⟨wb + 1 + 1, 2, none⟩) (.inl (by simp)) (.int .u64 0)).setCell (p := ⟨wb + 1 + 1, 3, none⟩) (.inl (by simp)) (.int .u64 0)).setCell (p := ⟨wb + 1 + 1, 4, none⟩) (.inl (by simp)) (.int .i64 0)).setCell (p := ⟨wb + 1 + 1, 5, none⟩) (.inl (by simp)) (.int .i64 0)).setCell (p := ⟨wb + 1 + 1, 6, none⟩) (.inl (by simp)) (.slice none 0 0)).setCell (p := ⟨wb + 1 + 1, 7, none⟩) (.inl (by simp)) (.bool false)).setCell (p := ⟨wb + 1 + 1, 8, none⟩) (.inl (by simp)) (.int .i64 (T.gone : Int))).setCell (p := ⟨wb + 1 + 1, 9, none⟩) (.inl (by simp)) (.int .i64 T.e)
  have b5 := ((((((((((b4).set 0 (.int .u64 (T.n.s : Int))).set 1 (.slice a3 m3 c3)).set 2 (.int .u64 0)).set 3 (.int .u64 0)).set 4 (.int .i64 0)).set 5 (.int .i64 0)).set 6 (.slice none 0 0)).set 7 (.bool false)).set 8 (.int .i64 (T.gone : Int))).set 9 (.int .i64 T.e)
  simp only [List.set_cons_zero, List.set_cons_succ] at b5
  have hO6 := hO4.other b4 (by decide) (by decide) xz
  refine ret_cell Try.results11 rfl b5 Try.underlying36 rfl told_info rfl ⟨.slice a3 m3 c3, rs3, ⟨_, _, _, rfl⟩, rfl, hO6.mono (by rw [HWB.out]; have := HSZ.out; omega), hE.trans' (((xe.mono (by simp)).trans x9).trans xz) (fun i hi => .inr (by have := HWB.out; simp at hi; omega))⟩
end Go.Proofs.Ytpdfmeaemlgniaa
