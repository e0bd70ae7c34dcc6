
/-
  Op.run of kinds 0 to 2.
-/
import Derived.Test.YtpdfmeaemlgniaaNetRunB
namespace Go.Proofs.Ytpdfmeaemlgniaa
open Go.RowKit
open Go.Lib hiding intOf
set_option linter.unusedVariables false
set_option linter.unusedSimpArgs false
set_option maxRecDepth 100000 in
set_option maxHeartbeats 4000000 in
theorem run_send0 (w : World) (o : OpR) (a : Option Addr) (c ob : Nat) (h : o.in64) (hk : o.knd = 0) (s : Nat) (v : Value) (l : List Par) (hP : Ps w v l) (hll : l.length ≤ 100000) (hB : Bs w (.slice a o.bs.length c) ob o.bs) :
    Calls Try.prog 11 #[OV o a c, NV s v] w fun e w' => ∃ v' rs', (∃ a' n' c', v' = .slice a' n' c') ∧ e = .returned (.agg #[.int .u64 ((ofM ⟨s, l⟩ (sendM ⟨s, l⟩ o.fr o.tt o.bts)).n.s : Int), v', .int .u64 ((ofM ⟨s, l⟩ (sendM ⟨s, l⟩ o.fr o.tt o.bts)).num : Int), .int .u64 0, .int .i64 0, .int .i64 0, .slice none 0 0, .bool false, .int .i64 0, .int .i64 (ofM ⟨s, l⟩ (sendM ⟨s, l⟩ o.fr o.tt o.bts)).e]) ∧ OPs w.heap.size w' v' (ofM ⟨s, l⟩ (sendM ⟨s, l⟩ o.fr o.tt o.bts)).n.ps rs' ∧ Ext [] w w' := by
  obtain ⟨an, cn, rfl⟩ := hP.shape
  have x1 := (Ext.refl [] w).alloc (.cells #[.int .i64 o.kind, .int .i64 o.fr, .int .i64 o.tt, .int .i64 o.at_, .int .i64 o.place, .bool o.other, .int .u8 (o.by_.toNat : Int), .slice a o.bs.length c] 31)
  have x2 := (Ext.refl [] (w.alloc (.cells #[.int .i64 o.kind, .int .i64 o.fr, .int .i64 o.tt, .int .i64 o.at_, .int .i64 o.place, .bool o.other, .int .u8 (o.by_.toNat : Int), .slice a o.bs.length c] 31))).alloc (.cells #[.int .u64 (s : Int), .slice an l.length cn] 25)
  have x3 := (Ext.refl [] ((w.alloc (.cells #[.int .i64 o.kind, .int .i64 o.fr, .int .i64 o.tt, .int .i64 o.at_, .int .i64 o.place, .bool o.other, .int .u8 (o.by_.toNat : Int), .slice a o.bs.length c] 31)).alloc (.cells #[.int .u64 (s : Int), .slice an l.length cn] 25))).alloc (.cells #[.int .u64 0, .slice none 0 0, .int .u64 0, .int .u64 0, .int .i64 0, .int .i64 0, .slice none 0 0, .bool false, .int .i64 0, .int .i64 0] 36)
  have b1 := (Blk.new w [.int .i64 o.kind, .int .i64 o.fr, .int .i64 o.tt, .int .i64 o.at_, .int .i64 o.place, .bool o.other, .int .u8 (o.by_.toNat : Int), .slice a o.bs.length c] 31).ext (x2.trans x3) (by simp)
  have b2 := (Blk.new (w.alloc (.cells #[.int .i64 o.kind, .int .i64 o.fr, .int .i64 o.tt, .int .i64 o.at_, .int .i64 o.place, .bool o.other, .int .u8 (o.by_.toNat : Int), .slice a o.bs.length c] 31)) [.int .u64 (s : Int), .slice an l.length cn] 25).ext x3 (by simp)
  have b3 := Blk.new ((w.alloc (.cells #[.int .i64 o.kind, .int .i64 o.fr, .int .i64 o.tt, .int .i64 o.at_, .int .i64 o.place, .bool o.other, .int .u8 (o.by_.toNat : Int), .slice a o.bs.length c] 31)).alloc (.cells #[.int .u64 (s : Int), .slice an l.length cn] 25)) [.int .u64 0, .slice none 0 0, .int .u64 0, .int .u64 0, .int .i64 0, .int .i64 0, .slice none 0 0, .bool false, .int .i64 0, .int .i64 0] 36
  have hE := (x1.trans x2).trans x3
  simp only [World.size_alloc] at b2 b3
  have hP := hP.ext hE
  have hB := hB.ext hE (by simp)
  have kd := fun w' => kind_any w' o a c h
  have bt := fun w' (x : Ext [] (((w.alloc (.cells #[.int .i64 o.kind, .int .i64 o.fr, .int .i64 o.tt, .int .i64 o.at_, .int .i64 o.place, .bool o.other, .int .u8 (o.by_.toNat : Int), .slice a o.bs.length c] 31)).alloc (.cells #[.int .u64 (s : Int), .slice an l.length cn] 25)).alloc (.cells #[.int .u64 0, .slice none 0 0, .int .u64 0, .int .u64 0, .int .i64 0, .int .i64 0, .slice none 0 0, .bool false, .int .i64 0, .int .i64 0] 36)) w') => bytes_any w' o a c ob (hB.ext x (by simp))
  have sd := fun w' (x : Ext [] (((w.alloc (.cells #[.int .i64 o.kind, .int .i64 o.fr, .int .i64 o.tt, .int .i64 o.at_, .int .i64 o.place, .bool o.other, .int .u8 (o.by_.toNat : Int), .slice a o.bs.length c] 31)).alloc (.cells #[.int .u64 (s : Int), .slice an l.length cn] 25)).alloc (.cells #[.int .u64 0, .slice none 0 0, .int .u64 0, .int .u64 0, .int .i64 0, .int .i64 0, .slice none 0 0, .bool false, .int .i64 0, .int .i64 0] 36)) w') bv ob' (hb : Bs w' bv ob' o.bts) => Send_any w' s _ l o.fr o.tt bv ob' o.bts (hP.ext x) hb (by unfold OpR.bts; rw [List.length_take]; omega)
  have hM : o.bts.length ≤ 60001 := by unfold OpR.bts; rw [List.length_take]; omega
  generalize ofM ⟨s, l⟩ (sendM ⟨s, l⟩ o.fr o.tt o.bts) = T at *
  generalize o.bts = M at *
  have hsz : (((w.alloc (.cells #[.int .i64 o.kind, .int .i64 o.fr, .int .i64 o.tt, .int .i64 o.at_, .int .i64 o.place, .bool o.other, .int .u8 (o.by_.toNat : Int), .slice a o.bs.length c] 31)).alloc (.cells #[.int .u64 (s : Int), .slice an l.length cn] 25)).alloc (.cells #[.int .u64 0, .slice none 0 0, .int .u64 0, .int .u64 0, .int .i64 0, .int .i64 0, .slice none 0 0, .bool false, .int .i64 0, .int .i64 0] 36)).heap.size = w.heap.size + 3 := by simp
  have HSZ := Lib.hid hsz
  rw [hk] at kd
  clear x1 x2 x3 h hk hP hB hsz
  obtain ⟨k0, k1, k2, k3, k4, k5, k6, k7⟩ := b1.c8
  obtain ⟨n0, n1⟩ := b2.c2
  go_enter Try.func11, Try.ntmps11
  go_upto_region 1 with (fail)
  generalize (((w.alloc (.cells #[.int .i64 o.kind, .int .i64 o.fr, .int .i64 o.tt, .int .i64 o.at_, .int .i64 o.place, .bool o.other, .int .u8 (o.by_.toNat : Int), .slice a o.bs.length c] 31)).alloc (.cells #[.int .u64 (s : Int), .slice an l.length cn] 25)).alloc (.cells #[.int .u64 0, .slice none 0 0, .int .u64 0, .int .u64 0, .int .i64 0, .int .i64 0, .slice none 0 0, .bool false, .int .i64 0, .int .i64 0] 36)) = W at *
  generalize hwb : w.heap.size = wb at *
  have HWB := Lib.hid hwb
  clear hwb
  go_upto_region 6 with (go_at_call 29; (with_reducible refine (kd _).mono ?_); rintro e w1 ⟨rfl, x1⟩)
  have b1' := b1.ext x1 (by simp)
  have b2' := b2.ext x1 (by simp)
  clear k0 k1 k2 k3 k4 k5 k6 k7 n0 n1
  obtain ⟨k0, k1, k2, k3, k4, k5, k6, k7⟩ := b1'.c8
  obtain ⟨n0, n1⟩ := b2'.c2
  go_upto_region 7 with (go_at_call 31; (with_reducible refine (bt _ x1).mono ?_); rintro e w2 ⟨vb, rfl, hob, x2⟩; obtain ⟨ab, cb, rfl⟩ := own_shape hob; obtain ⟨obb, hbs, _⟩ := Sl.of_own hob; have hbs : Bs w2 (.slice ab M.length cb) obb M := hbs; have k0 := cells_ext x2 k0; have k1 := cells_ext x2 k1; have k2 := cells_ext x2 k2; have n0 := cells_ext x2 n0; have n1 := cells_ext x2 n1; have xe := x1.trans x2)
  have hA2 := xe.size
  have hA1 := x1.size
  go_upto_region 8 with (go_at_call 24; (with_reducible refine (sd _ xe _ _ hbs).mono ?_); rintro e w3 ⟨v3, rs3, ⟨a3, m3, c3, rfl⟩, rfl, hO3, x3⟩; have xf := xe.trans x3; have b3 := b3.ext xf (by simp); obtain ⟨t0, t1, t2, t3, t4, t5, t6, t7, t8, t9⟩ := b3.c10; have tf := b3.frozen)
  have x9 := ((((Ext.refl [wb + 1 + 1] w3).setCell (p := ⟨wb + 1 + 1, 0, none⟩) (.inl (by simp)) (.int .u64 (T.n.s : Int))).setCell (p := ⟨wb + 1 + 1, 1, none⟩) (.inl (by simp)) (.slice a3 m3 c3)).setCell (p := ⟨wb + 1 + 1, 2, none⟩) (.inl (by simp)) (.int .u64 (T.num : Int))).setCell (p := ⟨wb + 1 + 1, 9, none⟩) (.inl (by simp)) (.int .i64 T.e)
  have b5 := ((((b3).set 0 (.int .u64 (T.n.s : Int))).set 1 (.slice a3 m3 c3)).set 2 (.int .u64 (T.num : Int))).set 9 (.int .i64 T.e)
  simp only [List.set_cons_zero, List.set_cons_succ] at b5
  have hO4 := hO3.other b3 (by decide) (by decide) x9
  have hob4 := own_ext (own_ext hob x3 (fun _ _ => by simp)) x9 (own_ne (own_ext hob x3 (fun _ _ => by simp)) b3 (by decide))
  have hbk : ∀ g, (Value.slice ab M.length cb).ownBlock = some g → w1.heap.size ≤ g ∧ g < w2.heap.size := fun g hg => by
    have := own_block hob hg
    exact ⟨this.1, this.2.1⟩
  have xg : Ext [wb + 1 + 1] W _ := (xf.mono (by simp)).trans x9
  have hs9 : w2.heap.size ≤ (((((w3).setCell ⟨wb + 1 + 1, 0, none⟩ (.int .u64 (T.n.s : Int))).setCell ⟨wb + 1 + 1, 1, none⟩ (.slice a3 m3 c3)).setCell ⟨wb + 1 + 1, 2, none⟩ (.int .u64 (T.num : Int))).setCell ⟨wb + 1 + 1, 9, none⟩ (.int .i64 T.e)).heap.size := Nat.le_trans x3.size x9.size
  generalize ((((w3).setCell ⟨wb + 1 + 1, 0, none⟩ (.int .u64 (T.n.s : Int))).setCell ⟨wb + 1 + 1, 1, none⟩ (.slice a3 m3 c3)).setCell ⟨wb + 1 + 1, 2, none⟩ (.int .u64 (T.num : Int))).setCell ⟨wb + 1 + 1, 9, none⟩ (.int .i64 T.e) = S0 at *
  clear t0 t1 t2 t3 t4 t5 t6 t7 t8 t9 tf x9 hob hbs b3 hO3
  go_wp2_with (fail)
  go_loopw [45] (fun i wr => ∃ (j : Nat) (B : List UInt8), j ≤ M.length ∧ i = .int .i64 (j : Int) ∧ B.length = M.length ∧ wr.ownsRow w1.heap.size 5 1 (.slice ab M.length cb) M.length (B.map BV) ∧ Ext (Value.slice ab M.length cb).ownBlock.toList S0 wr) (fun i _ => M.length - (intOf i).toNat)
  case atStart => exact ⟨0, M, by omega, rfl, rfl, hob4, Ext.refl _ _⟩
  case round =>
    obtain ⟨j, B, hj, rfl, hBl, hob5, xr⟩ := hrel
    by_cases hjl : j < M.length
    · obtain ⟨z, hz⟩ : ∃ z, B[j]? = some z := ⟨_, List.getElem?_eq_getElem (by omega)⟩
      obtain ⟨gb, rfl⟩ : ∃ gb, ab = some ⟨gb, 0, none⟩ := by
        rcases hob5.2 with ⟨h1, h2⟩ | ⟨g, cap, cur, h1, _⟩
        · omega
        · simp only [Value.slice.injEq] at h1
          exact ⟨g, h1.1⟩
      have hc := hob5.cells (g := gb) rfl j (BV z) (by rw [List.getElem?_map, hz]; rfl)
      have hc : wr.cell? ⟨gb, j, none⟩ = some (.int .u8 (z.toNat : Int)) := by simpa [add_off, BV] using hc
      have hfz : wr.frozen? ⟨gb, j, none⟩ = false := by
        rcases hob5.2 with ⟨h1, h2⟩ | ⟨g, cap, cur, h1, _, h3, _⟩
        · omega
        · simp only [Value.slice.injEq, Option.some.injEq, Addr.mk.injEq] at h1
          obtain ⟨⟨rfl, _⟩, _⟩ := h1
          exact frozen_of_heap h3 j
      have hxr : bits .xor .u8 (z.toNat : Int) 238 = ((z ^^^ 238).toNat : Int) := xor_u8b z 238
      have hob6 := own_byte (l := B) (by rw [hBl]; exact hob5) j (z ^^^ 238)
      rw [hBl] at hob6
      have xr2 := xr.setCell (p := ⟨gb, j, none⟩) (.inl (by simp [Value.ownBlock])) (BV (z ^^^ 238))
      have HH := Lib.hid (And.intro hob6 xr2)
      clear hob6 xr2
      go_wp2_with (fail)
      go_roundw
      case rel => exact ⟨j + 1, B.set j (z ^^^ 238), by omega, by go_num, by rw [List.length_set]; exact hBl, HH.out.1, HH.out.2⟩
      case measure => simp [intOf]; omega
    · obtain rfl : j = M.length := by omega
      have b5 := b5.ext xr (fun m => own_ne hob4 b5 (by decide) (wb + 1 + 1) (by simpa using m) (by simp))
      have hO5 := hO4.keep xr (fun g hg => .inl (hbk g (by simpa using hg)).2)
      obtain ⟨t0, t1, t2, t3, t4, t5, t6, t7, t8, t9⟩ := b5.c10
      have tf := b5.frozen
      go_wp2_with (fail)
      have xz := ((((((((((Ext.refl [wb + 1 + 1] wr).setCell (p := ⟨wb + 1 + 1, 0, none⟩) (.inl (by simp)) (.int .u64 (T.n.s : Int))).setCell (p := ⟨wb + 1 + 1, 1, none⟩) (.inl (by simp)) (.slice a3 m3 c3)).setCell (p := ⟨wb + 1 + 1, 2, none⟩) (.inl (by simp)) (.int .u64 (T.num : Int))).setCell (p := ⟨wb + 1 + 1, 3, none⟩) (.inl (by simp)) (.int .u64 0)).setCell (p := ⟨wb + 1 + 1, 4, none⟩) (.inl (by simp)) (.int .i64 0)).setCell (p := ⟨wb + 1 + 1, 5, none⟩) (.inl (by simp)) (.int .i64 0)).setCell (p := ⟨wb + 1 + 1, 6, none⟩) (.inl (by simp)) (.slice none 0 0)).setCell (p := ⟨wb + 1 + 1, 7, none⟩) (.inl (by simp)) (.bool false)).setCell (p := ⟨wb + 1 + 1, 8, none⟩) (.inl (by simp)) (.int .i64 0)).setCell (p := ⟨wb + 1 + 1, 9, none⟩) (.inl (by simp)) (.int .i64 T.e)
      have b6 := ((((((((((b5).set 0 (.int .u64 (T.n.s : Int))).set 1 (.slice a3 m3 c3)).set 2 (.int .u64 (T.num : Int))).set 3 (.int .u64 0)).set 4 (.int .i64 0)).set 5 (.int .i64 0)).set 6 (.slice none 0 0)).set 7 (.bool false)).set 8 (.int .i64 0)).set 9 (.int .i64 T.e)
      simp only [List.set_cons_zero, List.set_cons_succ] at b6
      have hO6 := hO5.other b5 (by decide) (by decide) xz
      refine ret_cell Try.results11 rfl b6 Try.underlying36 rfl told_info rfl ⟨.slice a3 m3 c3, rs3, ⟨_, _, _, rfl⟩, rfl, hO6.mono (by rw [HWB.out]; have := HSZ.out; omega), ?_⟩
      have hx1 := (hE.trans' xg (fun i hi => .inr (by have := HWB.out; simp at hi; omega)))
      exact (hx1.trans' xr (fun i hi => .inr (by have := hbk i (by simpa using hi); have := HSZ.out; have := HWB.out; omega))).trans' xz (fun i hi => .inr (by have := HWB.out; simp at hi; omega))
set_option maxRecDepth 100000 in
set_option maxHeartbeats 4000000 in
theorem run_send1 (w : World) (o : OpR) (a : Option Addr) (c ob : Nat) (h : o.in64) (hk : o.knd = 1) (s : Nat) (v : Value) (l : List Par) (hP : Ps w v l) (hll : l.length ≤ 100000) (hB : Bs w (.slice a o.bs.length c) ob o.bs) :
    Calls Try.prog 11 #[OV o a c, NV s v] w fun e w' => ∃ v' rs', (∃ a' n' c', v' = .slice a' n' c') ∧ e = .returned (.agg #[.int .u64 ((ofM ⟨s, l⟩ (sendM ⟨s, l⟩ o.fr o.tt o.bts)).n.s : Int), v', .int .u64 ((ofM ⟨s, l⟩ (sendM ⟨s, l⟩ o.fr o.tt o.bts)).num : Int), .int .u64 0, .int .i64 0, .int .i64 0, .slice none 0 0, .bool false, .int .i64 0, .int .i64 (ofM ⟨s, l⟩ (sendM ⟨s, l⟩ o.fr o.tt o.bts)).e]) ∧ OPs w.heap.size w' v' (ofM ⟨s, l⟩ (sendM ⟨s, l⟩ o.fr o.tt o.bts)).n.ps rs' ∧ Ext [] w w' := by
  obtain ⟨an, cn, rfl⟩ := hP.shape
  have x1 := (Ext.refl [] w).alloc (.cells #[.int .i64 o.kind, .int .i64 o.fr, .int .i64 o.tt, .int .i64 o.at_, .int .i64 o.place, .bool o.other, .int .u8 (o.by_.toNat : Int), .slice a o.bs.length c] 31)
  have x2 := (Ext.refl [] (w.alloc (.cells #[.int .i64 o.kind, .int .i64 o.fr, .int .i64 o.tt, .int .i64 o.at_, .int .i64 o.place, .bool o.other, .int .u8 (o.by_.toNat : Int), .slice a o.bs.length c] 31))).alloc (.cells #[.int .u64 (s : Int), .slice an l.length cn] 25)
  have x3 := (Ext.refl [] ((w.alloc (.cells #[.int .i64 o.kind, .int .i64 o.fr, .int .i64 o.tt, .int .i64 o.at_, .int .i64 o.place, .bool o.other, .int .u8 (o.by_.toNat : Int), .slice a o.bs.length c] 31)).alloc (.cells #[.int .u64 (s : Int), .slice an l.length cn] 25))).alloc (.cells #[.int .u64 0, .slice none 0 0, .int .u64 0, .int .u64 0, .int .i64 0, .int .i64 0, .slice none 0 0, .bool false, .int .i64 0, .int .i64 0] 36)
  have b1 := (Blk.new w [.int .i64 o.kind, .int .i64 o.fr, .int .i64 o.tt, .int .i64 o.at_, .int .i64 o.place, .bool o.other, .int .u8 (o.by_.toNat : Int), .slice a o.bs.length c] 31).ext (x2.trans x3) (by simp)
  have b2 := (Blk.new (w.alloc (.cells #[.int .i64 o.kind, .int .i64 o.fr, .int .i64 o.tt, .int .i64 o.at_, .int .i64 o.place, .bool o.other, .int .u8 (o.by_.toNat : Int), .slice a o.bs.length c] 31)) [.int .u64 (s : Int), .slice an l.length cn] 25).ext x3 (by simp)
  have b3 := Blk.new ((w.alloc (.cells #[.int .i64 o.kind, .int .i64 o.fr, .int .i64 o.tt, .int .i64 o.at_, .int .i64 o.place, .bool o.other, .int .u8 (o.by_.toNat : Int), .slice a o.bs.length c] 31)).alloc (.cells #[.int .u64 (s : Int), .slice an l.length cn] 25)) [.int .u64 0, .slice none 0 0, .int .u64 0, .int .u64 0, .int .i64 0, .int .i64 0, .slice none 0 0, .bool false, .int .i64 0, .int .i64 0] 36
  have hE := (x1.trans x2).trans x3
  simp only [World.size_alloc] at b2 b3
  have hP := hP.ext hE
  have hB := hB.ext hE (by simp)
  have kd := fun w' => kind_any w' o a c h
  have bt := fun w' (x : Ext [] (((w.alloc (.cells #[.int .i64 o.kind, .int .i64 o.fr, .int .i64 o.tt, .int .i64 o.at_, .int .i64 o.place, .bool o.other, .int .u8 (o.by_.toNat : Int), .slice a o.bs.length c] 31)).alloc (.cells #[.int .u64 (s : Int), .slice an l.length cn] 25)).alloc (.cells #[.int .u64 0, .slice none 0 0, .int .u64 0, .int .u64 0, .int .i64 0, .int .i64 0, .slice none 0 0, .bool false, .int .i64 0, .int .i64 0] 36)) w') => bytes_any w' o a c ob (hB.ext x (by simp))
  have sd := fun w' (x : Ext [] (((w.alloc (.cells #[.int .i64 o.kind, .int .i64 o.fr, .int .i64 o.tt, .int .i64 o.at_, .int .i64 o.place, .bool o.other, .int .u8 (o.by_.toNat : Int), .slice a o.bs.length c] 31)).alloc (.cells #[.int .u64 (s : Int), .slice an l.length cn] 25)).alloc (.cells #[.int .u64 0, .slice none 0 0, .int .u64 0, .int .u64 0, .int .i64 0, .int .i64 0, .slice none 0 0, .bool false, .int .i64 0, .int .i64 0] 36)) w') bv ob' (hb : Bs w' bv ob' o.bts) => Send_any w' s _ l o.fr o.tt bv ob' o.bts (hP.ext x) hb (by unfold OpR.bts; rw [List.length_take]; omega)
  have hM : o.bts.length ≤ 60001 := by unfold OpR.bts; rw [List.length_take]; omega
  generalize ofM ⟨s, l⟩ (sendM ⟨s, l⟩ o.fr o.tt o.bts) = T at *
  generalize o.bts = M at *
  have hsz : (((w.alloc (.cells #[.int .i64 o.kind, .int .i64 o.fr, .int .i64 o.tt, .int .i64 o.at_, .int .i64 o.place, .bool o.other, .int .u8 (o.by_.toNat : Int), .slice a o.bs.length c] 31)).alloc (.cells #[.int .u64 (s : Int), .slice an l.length cn] 25)).alloc (.cells #[.int .u64 0, .slice none 0 0, .int .u64 0, .int .u64 0, .int .i64 0, .int .i64 0, .slice none 0 0, .bool false, .int .i64 0, .int .i64 0] 36)).heap.size = w.heap.size + 3 := by simp
  have HSZ := Lib.hid hsz
  rw [hk] at kd
  clear x1 x2 x3 h hk hP hB hsz
  obtain ⟨k0, k1, k2, k3, k4, k5, k6, k7⟩ := b1.c8
  obtain ⟨n0, n1⟩ := b2.c2
  go_enter Try.func11, Try.ntmps11
  go_upto_region 1 with (fail)
  generalize (((w.alloc (.cells #[.int .i64 o.kind, .int .i64 o.fr, .int .i64 o.tt, .int .i64 o.at_, .int .i64 o.place, .bool o.other, .int .u8 (o.by_.toNat : Int), .slice a o.bs.length c] 31)).alloc (.cells #[.int .u64 (s : Int), .slice an l.length cn] 25)).alloc (.cells #[.int .u64 0, .slice none 0 0, .int .u64 0, .int .u64 0, .int .i64 0, .int .i64 0, .slice none 0 0, .bool false, .int .i64 0, .int .i64 0] 36)) = W at *
  generalize hwb : w.heap.size = wb at *
  have HWB := Lib.hid hwb
  clear hwb
  go_upto_region 6 with (go_at_call 29; (with_reducible refine (kd _).mono ?_); rintro e w1 ⟨rfl, x1⟩)
  have b1' := b1.ext x1 (by simp)
  have b2' := b2.ext x1 (by simp)
  clear k0 k1 k2 k3 k4 k5 k6 k7 n0 n1
  obtain ⟨k0, k1, k2, k3, k4, k5, k6, k7⟩ := b1'.c8
  obtain ⟨n0, n1⟩ := b2'.c2
  go_upto_region 7 with (go_at_call 31; (with_reducible refine (bt _ x1).mono ?_); rintro e w2 ⟨vb, rfl, hob, x2⟩; obtain ⟨ab, cb, rfl⟩ := own_shape hob; obtain ⟨obb, hbs, _⟩ := Sl.of_own hob; have hbs : Bs w2 (.slice ab M.length cb) obb M := hbs; have k0 := cells_ext x2 k0; have k1 := cells_ext x2 k1; have k2 := cells_ext x2 k2; have n0 := cells_ext x2 n0; have n1 := cells_ext x2 n1; have xe := x1.trans x2)
  have hA2 := xe.size
  have hA1 := x1.size
  go_upto_region 8 with (go_at_call 24; (with_reducible refine (sd _ xe _ _ hbs).mono ?_); rintro e w3 ⟨v3, rs3, ⟨a3, m3, c3, rfl⟩, rfl, hO3, x3⟩; have xf := xe.trans x3; have b3 := b3.ext xf (by simp); obtain ⟨t0, t1, t2, t3, t4, t5, t6, t7, t8, t9⟩ := b3.c10; have tf := b3.frozen)
  have x9 := ((((Ext.refl [wb + 1 + 1] w3).setCell (p := ⟨wb + 1 + 1, 0, none⟩) (.inl (by simp)) (.int .u64 (T.n.s : Int))).setCell (p := ⟨wb + 1 + 1, 1, none⟩) (.inl (by simp)) (.slice a3 m3 c3)).setCell (p := ⟨wb + 1 + 1, 2, none⟩) (.inl (by simp)) (.int .u64 (T.num : Int))).setCell (p := ⟨wb + 1 + 1, 9, none⟩) (.inl (by simp)) (.int .i64 T.e)
  have b5 := ((((b3).set 0 (.int .u64 (T.n.s : Int))).set 1 (.slice a3 m3 c3)).set 2 (.int .u64 (T.num : Int))).set 9 (.int .i64 T.e)
  simp only [List.set_cons_zero, List.set_cons_succ] at b5
  have hO4 := hO3.other b3 (by decide) (by decide) x9
  have hob4 := own_ext (own_ext hob x3 (fun _ _ => by simp)) x9 (own_ne (own_ext hob x3 (fun _ _ => by simp)) b3 (by decide))
  have hbk : ∀ g, (Value.slice ab M.length cb).ownBlock = some g → w1.heap.size ≤ g ∧ g < w2.heap.size := fun g hg => by
    have := own_block hob hg
    exact ⟨this.1, this.2.1⟩
  have xg : Ext [wb + 1 + 1] W _ := (xf.mono (by simp)).trans x9
  have hs9 : w2.heap.size ≤ (((((w3).setCell ⟨wb + 1 + 1, 0, none⟩ (.int .u64 (T.n.s : Int))).setCell ⟨wb + 1 + 1, 1, none⟩ (.slice a3 m3 c3)).setCell ⟨wb + 1 + 1, 2, none⟩ (.int .u64 (T.num : Int))).setCell ⟨wb + 1 + 1, 9, none⟩ (.int .i64 T.e)).heap.size := Nat.le_trans x3.size x9.size
  generalize ((((w3).setCell ⟨wb + 1 + 1, 0, none⟩ (.int .u64 (T.n.s : Int))).setCell ⟨wb + 1 + 1, 1, none⟩ (.slice a3 m3 c3)).setCell ⟨wb + 1 + 1, 2, none⟩ (.int .u64 (T.num : Int))).setCell ⟨wb + 1 + 1, 9, none⟩ (.int .i64 T.e) = S0 at *
  clear t0 t1 t2 t3 t4 t5 t6 t7 t8 t9 tf x9 hob hbs b3 hO3
  go_wp2_with (fail)
  go_loopw [45] (fun i wr => ∃ (j : Nat) (B : List UInt8), j ≤ M.length ∧ i = .int .i64 (j : Int) ∧ B.length = M.length ∧ wr.ownsRow w1.heap.size 5 1 (.slice ab M.length cb) M.length (B.map BV) ∧ Ext (Value.slice ab M.length cb).ownBlock.toList S0 wr) (fun i _ => M.length - (intOf i).toNat)
  case atStart => exact ⟨0, M, by omega, rfl, rfl, hob4, Ext.refl _ _⟩
  case round =>
    obtain ⟨j, B, hj, rfl, hBl, hob5, xr⟩ := hrel
    by_cases hjl : j < M.length
    · obtain ⟨z, hz⟩ : ∃ z, B[j]? = some z := ⟨_, List.getElem?_eq_getElem (by omega)⟩
      obtain ⟨gb, rfl⟩ : ∃ gb, ab = some ⟨gb, 0, none⟩ := by
        rcases hob5.2 with ⟨h1, h2⟩ | ⟨g, cap, cur, h1, _⟩
        · omega
        · simp only [Value.slice.injEq] at h1
          exact ⟨g, h1.1⟩
      have hc := hob5.cells (g := gb) rfl j (BV z) (by rw [List.getElem?_map, hz]; rfl)
      have hc : wr.cell? ⟨gb, j, none⟩ = some (.int .u8 (z.toNat : Int)) := by simpa [add_off, BV] using hc
      have hfz : wr.frozen? ⟨gb, j, none⟩ = false := by
        rcases hob5.2 with ⟨h1, h2⟩ | ⟨g, cap, cur, h1, _, h3, _⟩
        · omega
        · simp only [Value.slice.injEq, Option.some.injEq, Addr.mk.injEq] at h1
          obtain ⟨⟨rfl, _⟩, _⟩ := h1
          exact frozen_of_heap h3 j
      have hxr : bits .xor .u8 (z.toNat : Int) 238 = ((z ^^^ 238).toNat : Int) := xor_u8b z 238
      have hob6 := own_byte (l := B) (by rw [hBl]; exact hob5) j (z ^^^ 238)
      rw [hBl] at hob6
      have xr2 := xr.setCell (p := ⟨gb, j, none⟩) (.inl (by simp [Value.ownBlock])) (BV (z ^^^ 238))
      have HH := Lib.hid (And.intro hob6 xr2)
      clear hob6 xr2
      go_wp2_with (fail)
      go_roundw
      case rel => exact ⟨j + 1, B.set j (z ^^^ 238), by omega, by go_num, by rw [List.length_set]; exact hBl, HH.out.1, HH.out.2⟩
      case measure => simp [intOf]; omega
    · obtain rfl : j = M.length := by omega
      have b5 := b5.ext xr (fun m => own_ne hob4 b5 (by decide) (wb + 1 + 1) (by simpa using m) (by simp))
      have hO5 := hO4.keep xr (fun g hg => .inl (hbk g (by simpa using hg)).2)
      obtain ⟨t0, t1, t2, t3, t4, t5, t6, t7, t8, t9⟩ := b5.c10
      have tf := b5.frozen
      go_wp2_with (fail)
      have xz := ((((((((((Ext.refl [wb + 1 + 1] wr).setCell (p := ⟨wb + 1 + 1, 0, none⟩) (.inl (by simp)) (.int .u64 (T.n.s : Int))).setCell (p := ⟨wb + 1 + 1, 1, none⟩) (.inl (by simp)) (.slice a3 m3 c3)).setCell (p := ⟨wb + 1 + 1, 2, none⟩) (.inl (by simp)) (.int .u64 (T.num : Int))).setCell (p := ⟨wb + 1 + 1, 3, none⟩) (.inl (by simp)) (.int .u64 0)).setCell (p := ⟨wb + 1 + 1, 4, none⟩) (.inl (by simp)) (.int .i64 0)).setCell (p := ⟨wb + 1 + 1, 5, none⟩) (.inl (by simp)) (.int .i64 0)).setCell (p := ⟨wb + 1 + 1, 6, none⟩) (.inl (by simp)) (.slice none 0 0)).setCell (p := ⟨wb + 1 + 1, 7, none⟩) (.inl (by simp)) (.bool false)).setCell (p := ⟨wb + 1 + 1, 8, none⟩) (.inl (by simp)) (.int .i64 0)).setCell (p := ⟨wb + 1 + 1, 9, none⟩) (.inl (by simp)) (.int .i64 T.e)
      have b6 := ((((((((((b5).set 0 (.int .u64 (T.n.s : Int))).set 1 (.slice a3 m3 c3)).set 2 (.int .u64 (T.num : Int))).set 3 (.int .u64 0)).set 4 (.int .i64 0)).set 5 (.int .i64 0)).set 6 (.slice none 0 0)).set 7 (.bool false)).set 8 (.int .i64 0)).set 9 (.int .i64 T.e)
      simp only [List.set_cons_zero, List.set_cons_succ] at b6
      have hO6 := hO5.other b5 (by decide) (by decide) xz
      refine ret_cell Try.results11 rfl b6 Try.underlying36 rfl told_info rfl ⟨.slice a3 m3 c3, rs3, ⟨_, _, _, rfl⟩, rfl, hO6.mono (by rw [HWB.out]; have := HSZ.out; omega), ?_⟩
      have hx1 := (hE.trans' xg (fun i hi => .inr (by have := HWB.out; simp at hi; omega)))
      exact (hx1.trans' xr (fun i hi => .inr (by have := hbk i (by simpa using hi); have := HSZ.out; have := HWB.out; omega))).trans' xz (fun i hi => .inr (by have := HWB.out; simp at hi; omega))
set_option maxRecDepth 100000 in
set_option maxHeartbeats 4000000 in
theorem run_send2 (w : World) (o : OpR) (a : Option Addr) (c ob : Nat) (h : o.in64) (hk : o.knd = 2) (s : Nat) (v : Value) (l : List Par) (hP : Ps w v l) (hll : l.length ≤ 100000) (hB : Bs w (.slice a o.bs.length c) ob o.bs) :
    Calls Try.prog 11 #[OV o a c, NV s v] w fun e w' => ∃ v' rs', (∃ a' n' c', v' = .slice a' n' c') ∧ e = .returned (.agg #[.int .u64 ((ofM ⟨s, l⟩ (sendM ⟨s, l⟩ o.fr o.tt o.bts)).n.s : Int), v', .int .u64 ((ofM ⟨s, l⟩ (sendM ⟨s, l⟩ o.fr o.tt o.bts)).num : Int), .int .u64 0, .int .i64 0, .int .i64 0, .slice none 0 0, .bool false, .int .i64 0, .int .i64 (ofM ⟨s, l⟩ (sendM ⟨s, l⟩ o.fr o.tt o.bts)).e]) ∧ OPs w.heap.size w' v' (ofM ⟨s, l⟩ (sendM ⟨s, l⟩ o.fr o.tt o.bts)).n.ps rs' ∧ Ext [] w w' := by
  obtain ⟨an, cn, rfl⟩ := hP.shape
  have x1 := (Ext.refl [] w).alloc (.cells #[.int .i64 o.kind, .int .i64 o.fr, .int .i64 o.tt, .int .i64 o.at_, .int .i64 o.place, .bool o.other, .int .u8 (o.by_.toNat : Int), .slice a o.bs.length c] 31)
  have x2 := (Ext.refl [] (w.alloc (.cells #[.int .i64 o.kind, .int .i64 o.fr, .int .i64 o.tt, .int .i64 o.at_, .int .i64 o.place, .bool o.other, .int .u8 (o.by_.toNat : Int), .slice a o.bs.length c] 31))).alloc (.cells #[.int .u64 (s : Int), .slice an l.length cn] 25)
  have x3 := (Ext.refl [] ((w.alloc (.cells #[.int .i64 o.kind, .int .i64 o.fr, .int .i64 o.tt, .int .i64 o.at_, .int .i64 o.place, .bool o.other, .int .u8 (o.by_.toNat : Int), .slice a o.bs.length c] 31)).alloc (.cells #[.int .u64 (s : Int), .slice an l.length cn] 25))).alloc (.cells #[.int .u64 0, .slice none 0 0, .int .u64 0, .int .u64 0, .int .i64 0, .int .i64 0, .slice none 0 0, .bool false, .int .i64 0, .int .i64 0] 36)
  have b1 := (Blk.new w [.int .i64 o.kind, .int .i64 o.fr, .int .i64 o.tt, .int .i64 o.at_, .int .i64 o.place, .bool o.other, .int .u8 (o.by_.toNat : Int), .slice a o.bs.length c] 31).ext (x2.trans x3) (by simp)
  have b2 := (Blk.new (w.alloc (.cells #[.int .i64 o.kind, .int .i64 o.fr, .int .i64 o.tt, .int .i64 o.at_, .int .i64 o.place, .bool o.other, .int .u8 (o.by_.toNat : Int), .slice a o.bs.length c] 31)) [.int .u64 (s : Int), .slice an l.length cn] 25).ext x3 (by simp)
  have b3 := Blk.new ((w.alloc (.cells #[.int .i64 o.kind, .int .i64 o.fr, .int .i64 o.tt, .int .i64 o.at_, .int .i64 o.place, .bool o.other, .int .u8 (o.by_.toNat : Int), .slice a o.bs.length c] 31)).alloc (.cells #[.int .u64 (s : Int), .slice an l.length cn] 25)) [.int .u64 0, .slice none 0 0, .int .u64 0, .int .u64 0, .int .i64 0, .int .i64 0, .slice none 0 0, .bool false, .int .i64 0, .int .i64 0] 36
  have hE := (x1.trans x2).trans x3
  simp only [World.size_alloc] at b2 b3
  have hP := hP.ext hE
  have hB := hB.ext hE (by simp)
  have kd := fun w' => kind_any w' o a c h
  have bt := fun w' (x : Ext [] (((w.alloc (.cells #[.int .i64 o.kind, .int .i64 o.fr, .int .i64 o.tt, .int .i64 o.at_, .int .i64 o.place, .bool o.other, .int .u8 (o.by_.toNat : Int), .slice a o.bs.length c] 31)).alloc (.cells #[.int .u64 (s : Int), .slice an l.length cn] 25)).alloc (.cells #[.int .u64 0, .slice none 0 0, .int .u64 0, .int .u64 0, .int .i64 0, .int .i64 0, .slice none 0 0, .bool false, .int .i64 0, .int .i64 0] 36)) w') => bytes_any w' o a c ob (hB.ext x (by simp))
  have sd := fun w' (x : Ext [] (((w.alloc (.cells #[.int .i64 o.kind, .int .i64 o.fr, .int .i64 o.tt, .int .i64 o.at_, .int .i64 o.place, .bool o.other, .int .u8 (o.by_.toNat : Int), .slice a o.bs.length c] 31)).alloc (.cells #[.int .u64 (s : Int), .slice an l.length cn] 25)).alloc (.cells #[.int .u64 0, .slice none 0 0, .int .u64 0, .int .u64 0, .int .i64 0, .int .i64 0, .slice none 0 0, .bool false, .int .i64 0, .int .i64 0] 36)) w') bv ob' (hb : Bs w' bv ob' o.bts) => Send_any w' s _ l o.fr o.tt bv ob' o.bts (hP.ext x) hb (by unfold OpR.bts; rw [List.length_take]; omega)
  have hM : o.bts.length ≤ 60001 := by unfold OpR.bts; rw [List.length_take]; omega
  generalize ofM ⟨s, l⟩ (sendM ⟨s, l⟩ o.fr o.tt o.bts) = T at *
  generalize o.bts = M at *
  have hsz : (((w.alloc (.cells #[.int .i64 o.kind, .int .i64 o.fr, .int .i64 o.tt, .int .i64 o.at_, .int .i64 o.place, .bool o.other, .int .u8 (o.by_.toNat : Int), .slice a o.bs.length c] 31)).alloc (.cells #[.int .u64 (s : Int), .slice an l.length cn] 25)).alloc (.cells #[.int .u64 0, .slice none 0 0, .int .u64 0, .int .u64 0, .int .i64 0, .int .i64 0, .slice none 0 0, .bool false, .int .i64 0, .int .i64 0] 36)).heap.size = w.heap.size + 3 := by simp
  have HSZ := Lib.hid hsz
  rw [hk] at kd
  clear x1 x2 x3 h hk hP hB hsz
  obtain ⟨k0, k1, k2, k3, k4, k5, k6, k7⟩ := b1.c8
  obtain ⟨n0, n1⟩ := b2.c2
  go_enter Try.func11, Try.ntmps11
  go_upto_region 1 with (fail)
  generalize (((w.alloc (.cells #[.int .i64 o.kind, .int .i64 o.fr, .int .i64 o.tt, .int .i64 o.at_, .int .i64 o.place, .bool o.other, .int .u8 (o.by_.toNat : Int), .slice a o.bs.length c] 31)).alloc (.cells #[.int .u64 (s : Int), .slice an l.length cn] 25)).alloc (.cells #[.int .u64 0, .slice none 0 0, .int .u64 0, .int .u64 0, .int .i64 0, .int .i64 0, .slice none 0 0, .bool false, .int .i64 0, .int .i64 0] 36)) = W at *
  generalize hwb : w.heap.size = wb at *
  have HWB := Lib.hid hwb
  clear hwb
  go_upto_region 6 with (go_at_call 29; (with_reducible refine (kd _).mono ?_); rintro e w1 ⟨rfl, x1⟩)
  have b1' := b1.ext x1 (by simp)
  have b2' := b2.ext x1 (by simp)
  clear k0 k1 k2 k3 k4 k5 k6 k7 n0 n1
  obtain ⟨k0, k1, k2, k3, k4, k5, k6, k7⟩ := b1'.c8
  obtain ⟨n0, n1⟩ := b2'.c2
  go_upto_region 7 with (go_at_call 31; (with_reducible refine (bt _ x1).mono ?_); rintro e w2 ⟨vb, rfl, hob, x2⟩; obtain ⟨ab, cb, rfl⟩ := own_shape hob; obtain ⟨obb, hbs, _⟩ := Sl.of_own hob; have hbs : Bs w2 (.slice ab M.length cb) obb M := hbs; have k0 := cells_ext x2 k0; have k1 := cells_ext x2 k1; have k2 := cells_ext x2 k2; have n0 := cells_ext x2 n0; have n1 := cells_ext x2 n1; have xe := x1.trans x2)
  have hA2 := xe.size
  have hA1 := x1.size
  go_upto_region 8 with (go_at_call 24; (with_reducible refine (sd _ xe _ _ hbs).mono ?_); rintro e w3 ⟨v3, rs3, ⟨a3, m3, c3, rfl⟩, rfl, hO3, x3⟩; have xf := xe.trans x3; have b3 := b3.ext xf (by simp); obtain ⟨t0, t1, t2, t3, t4, t5, t6, t7, t8, t9⟩ := b3.c10; have tf := b3.frozen)
  have x9 := ((((Ext.refl [wb + 1 + 1] w3).setCell (p := ⟨wb + 1 + 1, 0, none⟩) (.inl (by simp)) (.int .u64 (T.n.s : Int))).setCell (p := ⟨wb + 1 + 1, 1, none⟩) (.inl (by simp)) (.slice a3 m3 c3)).setCell (p := ⟨wb + 1 + 1, 2, none⟩) (.inl (by simp)) (.int .u64 (T.num : Int))).setCell (p := ⟨wb + 1 + 1, 9, none⟩) (.inl (by simp)) (.int .i64 T.e)
  have b5 := ((((b3).set 0 (.int .u64 (T.n.s : Int))).set 1 (.slice a3 m3 c3)).set 2 (.int .u64 (T.num : Int))).set 9 (.int .i64 T.e)
  simp only [List.set_cons_zero, List.set_cons_succ] at b5
  have hO4 := hO3.other b3 (by decide) (by decide) x9
  have hob4 := own_ext (own_ext hob x3 (fun _ _ => by simp)) x9 (own_ne (own_ext hob x3 (fun _ _ => by simp)) b3 (by decide))
  have hbk : ∀ g, (Value.slice ab M.length cb).ownBlock = some g → w1.heap.size ≤ g ∧ g < w2.heap.size := fun g hg => by
    have := own_block hob hg
    exact ⟨this.1, this.2.1⟩
  have xg : Ext [wb + 1 + 1] W _ := (xf.mono (by simp)).trans x9
  have hs9 : w2.heap.size ≤ (((((w3).setCell ⟨wb + 1 + 1, 0, none⟩ (.int .u64 (T.n.s : Int))).setCell ⟨wb + 1 + 1, 1, none⟩ (.slice a3 m3 c3)).setCell ⟨wb + 1 + 1, 2, none⟩ (.int .u64 (T.num : Int))).setCell ⟨wb + 1 + 1, 9, none⟩ (.int .i64 T.e)).heap.size := Nat.le_trans x3.size x9.size
  generalize ((((w3).setCell ⟨wb + 1 + 1, 0, none⟩ (.int .u64 (T.n.s : Int))).setCell ⟨wb + 1 + 1, 1, none⟩ (.slice a3 m3 c3)).setCell ⟨wb + 1 + 1, 2, none⟩ (.int .u64 (T.num : Int))).setCell ⟨wb + 1 + 1, 9, none⟩ (.int .i64 T.e) = S0 at *
  clear t0 t1 t2 t3 t4 t5 t6 t7 t8 t9 tf x9 hob hbs b3 hO3
  go_wp2_with (fail)
  go_loopw [45] (fun i wr => ∃ (j : Nat) (B : List UInt8), j ≤ M.length ∧ i = .int .i64 (j : Int) ∧ B.length = M.length ∧ wr.ownsRow w1.heap.size 5 1 (.slice ab M.length cb) M.length (B.map BV) ∧ Ext (Value.slice ab M.length cb).ownBlock.toList S0 wr) (fun i _ => M.length - (intOf i).toNat)
  case atStart => exact ⟨0, M, by omega, rfl, rfl, hob4, Ext.refl _ _⟩
  case round =>
    obtain ⟨j, B, hj, rfl, hBl, hob5, xr⟩ := hrel
    by_cases hjl : j < M.length
    · obtain ⟨z, hz⟩ : ∃ z, B[j]? = some z := ⟨_, List.getElem?_eq_getElem (by omega)⟩
      obtain ⟨gb, rfl⟩ : ∃ gb, ab = some ⟨gb, 0, none⟩ := by
        rcases hob5.2 with ⟨h1, h2⟩ | ⟨g, cap, cur, h1, _⟩
        · omega
        · simp only [Value.slice.injEq] at h1
          exact ⟨g, h1.1⟩
      have hc := hob5.cells (g := gb) rfl j (BV z) (by rw [List.getElem?_map, hz]; rfl)
      have hc : wr.cell? ⟨gb, j, none⟩ = some (.int .u8 (z.toNat : Int)) := by simpa [add_off, BV] using hc
      have hfz : wr.frozen? ⟨gb, j, none⟩ = false := by
        rcases hob5.2 with ⟨h1, h2⟩ | ⟨g, cap, cur, h1, _, h3, _⟩
        · omega
        · simp only [Value.slice.injEq, Option.some.injEq, Addr.mk.injEq] at h1
          obtain ⟨⟨rfl, _⟩, _⟩ := h1
          exact frozen_of_heap h3 j
      have hxr : bits .xor .u8 (z.toNat : Int) 238 = ((z ^^^ 238).toNat : Int) := xor_u8b z 238
      have hob6 := own_byte (l := B) (by rw [hBl]; exact hob5) j (z ^^^ 238)
      rw [hBl] at hob6
      have xr2 := xr.setCell (p := ⟨gb, j, none⟩) (.inl (by simp [Value.ownBlock])) (BV (z ^^^ 238))
      have HH := Lib.hid (And.intro hob6 xr2)
      clear hob6 xr2
      go_wp2_with (fail)
      go_roundw
      case rel => exact ⟨j + 1, B.set j (z ^^^ 238), by omega, by go_num, by rw [List.length_set]; exact hBl, HH.out.1, HH.out.2⟩
      case measure => simp [intOf]; omega
    · obtain rfl : j = M.length := by omega
      have b5 := b5.ext xr (fun m => own_ne hob4 b5 (by decide) (wb + 1 + 1) (by simpa using m) (by simp))
      have hO5 := hO4.keep xr (fun g hg => .inl (hbk g (by simpa using hg)).2)
      obtain ⟨t0, t1, t2, t3, t4, t5, t6, t7, t8, t9⟩ := b5.c10
      have tf := b5.frozen
      go_wp2_with (fail)
      have xz := ((((((((((Ext.refl [wb + 1 + 1] wr).setCell (p := ⟨wb + 1 + 1, 0, none⟩) (.inl (by simp)) (.int .u64 (T.n.s : Int))).setCell (p := ⟨wb + 1 + 1, 1, none⟩) (.inl (by simp)) (.slice a3 m3 c3)).setCell (p := ⟨wb + 1 + 1, 2, none⟩) (.inl (by simp)) (.int .u64 (T.num : Int))).setCell (p := ⟨wb + 1 + 1, 3, none⟩) (.inl (by simp)) (.int .u64 0)).setCell (p := ⟨wb + 1 + 1, 4, none⟩) (.inl (by simp)) (.int .i64 0)).setCell (p := ⟨wb + 1 + 1, 5, none⟩) (.inl (by simp)) (.int .i64 0)).setCell (p := ⟨wb + 1 + 1, 6, none⟩) (.inl (by simp)) (.slice none 0 0)).setCell (p := ⟨wb + 1 + 1, 7, none⟩) (.inl (by simp)) (.bool false)).setCell (p := ⟨wb + 1 + 1, 8, none⟩) (.inl (by simp)) (.int .i64 0)).setCell (p := ⟨wb + 1 + 1, 9, none⟩) (.inl (by simp)) (.int .i64 T.e)
      have b6 := ((((((((((b5).set 0 (.int .u64 (T.n.s : Int))).set 1 (.slice a3 m3 c3)).set 2 (.int .u64 (T.num : Int))).set 3 (.int .u64 0)).set 4 (.int .i64 0)).set 5 (.int .i64 0)).set 6 (.slice none 0 0)).set 7 (.bool false)).set 8 (.int .i64 0)).set 9 (.int .i64 T.e)
      simp only [List.set_cons_zero, List.set_cons_succ] at b6
      have hO6 := hO5.other b5 (by decide) (by decide) xz
      refine ret_cell Try.results11 rfl b6 Try.underlying36 rfl told_info rfl ⟨.slice a3 m3 c3, rs3, ⟨_, _, _, rfl⟩, rfl, hO6.mono (by rw [HWB.out]; have := HSZ.out; omega), ?_⟩
      have hx1 := (hE.trans' xg (fun i hi => .inr (by have := HWB.out; simp at hi; omega)))
      exact (hx1.trans' xr (fun i hi => .inr (by have := hbk i (by simpa using hi); have := HSZ.out; have := HWB.out; omega))).trans' xz (fun i hi => .inr (by have := HWB.out; simp at hi; omega))
end Go.Proofs.Ytpdfmeaemlgniaa
