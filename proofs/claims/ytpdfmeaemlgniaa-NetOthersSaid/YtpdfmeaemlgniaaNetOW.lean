
/-
  NetOthers's walk.
-/
import Derived.Test.YtpdfmeaemlgniaaNetRunD
import Derived.Test.YtpdfmeaemlgniaaNetR
import Derived.Test.YtpdfmeaemlgniaaNetW
import Derived.Deep.DeepCutAuto
namespace Go.Proofs.Ytpdfmeaemlgniaa
open Go.RowKit
open Go.Lib hiding intOf
set_option linter.unusedVariables false
set_option linter.unusedSimpArgs false
theorem run_flat (w : World) (o : OpR) (a : Option Addr) (c ob : Nat) (h : o.in64) (s : Nat) (v : Value) (l : List Par) (hP : Ps w v l) (hll : l.length ≤ 100000) (hB : Bs w (.slice a o.bs.length c) ob o.bs) (hz : (o.tells s l).e = 0) :
    Calls Try.prog 11 #[OV o a c, NV s v] w fun e w' => ∃ (ts tn rn tg : Nat) (rf rt : Int) (ba : Option Addr) (bn bc : Nat) (rs : Bool) (a' : Option Addr) (c' : Nat), e = .returned (.agg #[.int .u64 (ts : Int), .slice a' (o.tells s l).n.ps.length c', .int .u64 (tn : Int), .int .u64 (rn : Int), .int .i64 rf, .int .i64 rt, .slice ba bn bc, .bool rs, .int .i64 (tg : Int), .int .i64 0]) ∧ Ps w' (.slice a' (o.tells s l).n.ps.length c') (o.tells s l).n.ps ∧ Ext [] w w' := by
  refine (run_any w o a c ob h s v l hP hll hB).mono fun e w' hh => ?_
  obtain ⟨v', rs', r, ⟨a', n', c', rfl⟩, rfl, hO, hI, -, x⟩ := hh
  obtain ⟨a1, c1, e1⟩ := hO.shape
  obtain ⟨b2, d2, e2⟩ := own_shape hI.2.2.2.2
  rw [e1, hz, e2]
  rw [e1] at hO
  exact ⟨_, _, _, _, _, _, _, _, _, _, a1, c1, rfl, hO.ps, x⟩
theorem run_none (w : World) (o : OpR) (a : Option Addr) (c ob : Nat) (h : o.in64) (s : Nat) (v : Value) (l : List Par) (hP : Ps w v l) (hll : l.length ≤ 100000) (hB : Bs w (.slice a o.bs.length c) ob o.bs) (hz : (o.tells s l).e ≠ 0) :
    Calls Try.prog 11 #[OV o a c, NV s v] w fun e w' => ∃ (tn rn tg : Nat) (rf rt te : Int) (ba : Option Addr) (bn bc : Nat) (rs : Bool) (a' : Option Addr) (c' : Nat), e = .returned (.agg #[.int .u64 0, .slice a' 0 c', .int .u64 (tn : Int), .int .u64 (rn : Int), .int .i64 rf, .int .i64 rt, .slice ba bn bc, .bool rs, .int .i64 (tg : Int), .int .i64 te]) ∧ (te != 0) = true ∧ Ext [] w w' := by
  refine (run_any w o a c ob h s v l hP hll hB).mono fun e w' hh => ?_
  obtain ⟨v', rs', r, ⟨a', n', c', rfl⟩, rfl, hO, hI, -, x⟩ := hh
  obtain ⟨a1, c1, e1⟩ := hO.shape
  obtain ⟨b2, d2, e2⟩ := own_shape hI.2.2.2.2
  rw [e1, o.tells_none s l hz, e2]
  exact ⟨_, _, _, _, _, _, _, _, _, _, a1, c1, rfl, by simpa using hz, x⟩
set_option maxRecDepth 100000 in
set_option maxHeartbeats 4000000 in
theorem walkOthers (w : World) (s : Nat) (v : Value) (l : List Par) (o : OpR) (a : Option Addr) (c ob : Nat) (hP : Ps w v l) (h : o.in64) (hB : Bs w (.slice a o.bs.length c) ob o.bs) :
    Calls Try.prog 7 #[NV s v, OV o a c] w fun e w' => e = .returned (.bool true) ∧ Below w.heap.size w w' := by
  obtain ⟨an, cn, rfl⟩ := hP.shape
  have x1 := (Ext.refl [] w).alloc (.cells #[.int .u64 (s : Int), .slice an l.length cn] 25)
  have x2 := (Ext.refl [] (w.alloc (.cells #[.int .u64 (s : Int), .slice an l.length cn] 25))).alloc (.cells #[.int .i64 o.kind, .int .i64 o.fr, .int .i64 o.tt, .int .i64 o.at_, .int .i64 o.place, .bool o.other, .int .u8 (o.by_.toNat : Int), .slice a o.bs.length c] 31)
  have b1 := (Blk.new w [.int .u64 (s : Int), .slice an l.length cn] 25).ext x2 (by simp)
  have b2 := Blk.new (w.alloc (.cells #[.int .u64 (s : Int), .slice an l.length cn] 25)) [.int .i64 o.kind, .int .i64 o.fr, .int .i64 o.tt, .int .i64 o.at_, .int .i64 o.place, .bool o.other, .int .u8 (o.by_.toNat : Int), .slice a o.bs.length c] 31
  have hE := x1.trans x2
  simp only [World.size_alloc] at b2
  have hP := hP.ext hE
  have hB := hB.ext hE (by simp)
  have hd := b1.c2
  obtain ⟨d0, d1⟩ := hd
  go_enter Try.func7, Try.ntmps7
  go_upto_region 1 with (fail)
  generalize (w.alloc (.cells #[.int .u64 (s : Int), .slice an l.length cn] 25)).alloc (.cells #[.int .i64 o.kind, .int .i64 o.fr, .int .i64 o.tt, .int .i64 o.at_, .int .i64 o.place, .bool o.other, .int .u8 (o.by_.toNat : Int), .slice a o.bs.length c] 31) = V at *
  generalize hwb : w.heap.size = wb at *
  have HWB := Lib.hid hwb
  clear hwb x1 x2
  go_upto_region 4 with (first
    | (go_at_call 9; (with_reducible refine (wakes_any _).mono ?_); rintro e w1 ⟨rfl, x1⟩; have d0 := cells_ext x1 d0; have d1 := cells_ext x1 d1)
    | (go_at_call 10; (with_reducible refine (short_any _ _ _ _ (hP.ext x1)).mono ?_); rintro e w2 ⟨v2, rs2, ⟨a2, n2, c2, rfl⟩, rfl, hO2, x2⟩))
  obtain ⟨a2', c2', e2⟩ := hO2.shape
  simp only [Value.slice.injEq] at e2
  obtain ⟨rfl, rfl, rfl⟩ := e2
  have y2 := (Ext.refl [] w2).alloc (.cells #[.int .u64 (s : Int), .slice a2 (shortL l).length c2] 25)
  have b3 := Blk.new w2 [.int .u64 (s : Int), .slice a2 (shortL l).length c2] 25
  have hX := (x1.trans x2).trans y2
  have hP2 := hO2.ps.ext y2
  have hll := shortL_len l
  generalize w2.alloc (.cells #[.int .u64 (s : Int), .slice a2 (shortL l).length c2] 25) = W at *
  generalize w2.heap.size = nb at *
  generalize shortL l = L at *
  clear x1 x2 y2 hO2 hP d0 d1
  have hB := hB.ext hX (by simp)
  have b2 := b2.ext hX (by simp)
  have hE := hE.trans hX
  have ck := Check_any W s _ L hP2
  obtain ⟨m0, m1⟩ := b3.c2
  cases hr : right ⟨s, L⟩
  · rw [hr] at ck
    go_wp2_with (go_at_call 17; (with_reducible refine ck.mono ?_); rintro e w3 ⟨rfl, x3⟩)
    go_ret
    exact ⟨rfl, (hE.trans x3).below⟩
  · rw [hr] at ck
    obtain ⟨k0, k1, k2, k3, k4, k5, k6, k7⟩ := b2.c8
    have nm := fun W' (x : Ext [] W W') => num_any W' o a c h s _ L (hP2.ext x) (by omega)
    by_cases he : (o.tells s L).e = 0
    · have rn := fun W' (x : Ext [] W W') => run_flat W' o a c ob h s _ L (hP2.ext x) (by omega) (hB.ext x (by simp)) he
      have hT := o.others s L hr he
      have hTl := o.tells_len s L
      generalize (o.tells s L).n.ps = Tl at *
      have kd := fun w' => kind_any w' o a c h
      generalize o.num L = num at *
      generalize o.knd = K at *
      clear he
      go_upto_region 8 with (first
        | (go_at_call 17; (with_reducible refine ck.mono ?_); rintro e w3 ⟨rfl, x3⟩; have m0 := cells_ext x3 m0; have m1 := cells_ext x3 m1; have k0 := cells_ext x3 k0; have k1 := cells_ext x3 k1; have k2 := cells_ext x3 k2; have k3 := cells_ext x3 k3; have k4 := cells_ext x3 k4; have k5 := cells_ext x3 k5; have k6 := cells_ext x3 k6; have k7 := cells_ext x3 k7)
        | (go_at_call 28; (with_reducible refine (nm _ x3).mono ?_); rintro e w4 ⟨rfl, x4⟩; have m0 := cells_ext x4 m0; have m1 := cells_ext x4 m1; have k0 := cells_ext x4 k0; have k1 := cells_ext x4 k1; have k2 := cells_ext x4 k2; have k3 := cells_ext x4 k3; have k4 := cells_ext x4 k4; have k5 := cells_ext x4 k5; have k6 := cells_ext x4 k6; have k7 := cells_ext x4 k7; have x4 := x3.trans x4)
        | (go_at_call 11; (with_reducible refine (rn _ x4).mono ?_); rintro e w5 ⟨ts, tn, r0, tg, rf, rt, ba, bn, bc, rs, a5, c5, rfl, hP5, x5⟩))
      have y5 := (Ext.refl [] w5).alloc (.cells #[.int .u64 (ts : Int), .slice a5 Tl.length c5, .int .u64 (tn : Int), .int .u64 (r0 : Int), .int .i64 rf, .int .i64 rt, .slice ba bn bc, .bool rs, .int .i64 (tg : Int), .int .i64 0] 36)
      have t5 := Blk.new w5 [.int .u64 (ts : Int), .slice a5 Tl.length c5, .int .u64 (tn : Int), .int .u64 (r0 : Int), .int .i64 rf, .int .i64 rt, .slice ba bn bc, .bool rs, .int .i64 (tg : Int), .int .i64 0] 36
      have hP6 := hP5.ext y5
      have hV := (x4.trans x5).trans y5
      generalize w5.alloc (.cells #[.int .u64 (ts : Int), .slice a5 Tl.length c5, .int .u64 (tn : Int), .int .u64 (r0 : Int), .int .i64 rf, .int .i64 rt, .slice ba bn bc, .bool rs, .int .i64 (tg : Int), .int .i64 0] 36) = V at *
      generalize w5.heap.size = tb at *
      have b3 := b3.ext hV (by simp)
      have b2 := b2.ext hV (by simp)
      have hP2 := hP2.ext hV
      have hEV := hE.trans hV
      clear k0 k1 k2 k3 k4 k5 k6 k7 m0 m1 hP5 rn nm ck hE hX hV x5 x4 x3 y5
      obtain ⟨k0, k1, k2, k3, k4, k5, k6, k7⟩ := b2.c8
      obtain ⟨m0, m1⟩ := b3.c2
      obtain ⟨t0, t1, t2, t3, t4, t5', t6, t7, t8, t9⟩ := t5.c10
      go_wp2_with (go_at_call 29; (with_reducible refine (kd _).mono ?_); rintro e w6 ⟨rfl, x6⟩; have m0 := cells_ext x6 m0; have m1 := cells_ext x6 m1; have t0 := cells_ext x6 t0; have t1 := cells_ext x6 t1; have k1 := cells_ext x6 k1; have k2 := cells_ext x6 k2)
      have hP2 := hP2.ext x6
      have hP6 := hP6.ext x6
      have hE6 := hEV.trans x6
      clear k0 k3 k4 k5 k6 k7 t2 t3 t4 t5' t6 t7 t8 t9 x6 b2 b3 t5 kd hP hB
      go_loopw [47] (fun i wr => ∃ j : Nat, j ≤ L.length ∧ i = .int .i64 (j : Int) ∧ Ext [] w6 wr) (fun i _ => L.length - (intOf i).toNat)
      case atStart => exact ⟨0, by omega, rfl, Ext.refl _ _⟩
      case round =>
        obtain ⟨j, hj, rfl, xr⟩ := hrel
        by_cases hjl : j < L.length
        · have hp : L[j]? = some L[j] := List.getElem?_eq_getElem hjl
          have hK := (hT L[j] (List.getElem_mem _)).1
          generalize L[j] = p at *
          obtain ⟨pb', po, a1, c1, rfl, p0, p1, p2, p3, p4, oc, hb⟩ := (hP2.ext xr).at j p hp
          have x1 := (Ext.refl [] wr).alloc (.cells #[.int .u64 (p.num : Int), .int .i64 p.fr, .int .i64 p.to, .slice a1 p.bs.length c1, .bool p.sp] 33)
          have g1 := Blk.new wr [.int .u64 (p.num : Int), .int .i64 p.fr, .int .i64 p.to, .slice a1 p.bs.length c1, .bool p.sp] 33
          have xu := xr.trans x1
          have hb := hb.ext x1 (by simp)
          have hj0 : (j : Int) < (L.length : Int) := by omega
          clear hT hp
          go_upto_region 14 with (fail)
          generalize wr.alloc (.cells #[.int .u64 (p.num : Int), .int .i64 p.fr, .int .i64 p.to, .slice a1 p.bs.length c1, .bool p.sp] 33) = U at *
          generalize wr.heap.size = pb at *
          clear p0 p1 p2 p3 p4 x1
          have t0 := cells_ext xu t0
          have t1 := cells_ext xu t1
          have ix := IndexFunc_any U _ Tl p.num pb (hP6.ext xu) (by omega) g1.c5.1
          generalize hF : findR Tl p.num = F at *
          have HF := Lib.hid hF
          clear hF
          go_upto_region 15 with (go_at_call 32; (with_reducible refine ix.mono ?_); rintro e w7 ⟨rfl, x7⟩; have xs := xu.trans x7; have t0 := cells_ext x7 t0; have t1 := cells_ext x7 t1; have k1 := cells_ext xs k1; have k2 := cells_ext xs k2)
          have g1 := g1.ext x7 (by simp)
          have hb := hb.ext x7 (by simp)
          obtain ⟨g0, g1', g2, g3, g4⟩ := g1.c5
          clear ix xu x7
          go_cut [12] (fun z wx => z = .bool (goneB K o.fr o.tt num p) ∧ wx = w7)
          case first =>
            clear t0 t1 hb
            rcases (show K = 5 ∨ K = 3 ∨ K = 4 ∨ (K ≠ 5 ∧ K ≠ 3 ∧ K ≠ 4) by omega) with hk | hk | hk | ⟨h5, h3, h4⟩
            · have q5 : ((K : Int) == 5) = true := by simp; omega
              have q3 : ((K : Int) == 3) = false := by simp; omega
              have q4 : ((K : Int) == 4) = false := by simp; omega
              have HK := Lib.hid hk
              clear hk
              cases hf : (p.fr == o.fr)
              · go_wp2_with (fail)
                go_meet
                exact ⟨by unfold goneB; rw [HK.out, hf]; simp, rfl⟩
              · cases ht : (p.to == o.tt)
                · go_wp2_with (fail)
                  go_meet
                  exact ⟨by unfold goneB; rw [HK.out, hf, ht]; simp, rfl⟩
                · go_wp2_with (fail)
                  go_meet
                  exact ⟨by unfold goneB; rw [HK.out, hf, ht]; simp, rfl⟩
            · have q5 : ((K : Int) == 5) = false := by simp; omega
              have q3 : ((K : Int) == 3) = true := by simp; omega
              have HK := Lib.hid hk
              clear hk
              cases hn : ((p.num : Int) == (num : Int))
              · go_wp2_with (fail)
                go_meet
                exact ⟨by unfold goneB; rw [HK.out]; simp at hn ⊢; omega, rfl⟩
              · go_wp2_with (fail)
                go_meet
                exact ⟨by unfold goneB; rw [HK.out]; simp at hn ⊢; omega, rfl⟩
            · have q5 : ((K : Int) == 5) = false := by simp; omega
              have q3 : ((K : Int) == 3) = false := by simp; omega
              have q4 : ((K : Int) == 4) = true := by simp; omega
              have HK := Lib.hid hk
              clear hk
              cases hn : ((p.num : Int) == (num : Int))
              · go_wp2_with (fail)
                go_meet
                exact ⟨by unfold goneB; rw [HK.out]; simp at hn ⊢; omega, rfl⟩
              · go_wp2_with (fail)
                go_meet
                exact ⟨by unfold goneB; rw [HK.out]; simp at hn ⊢; omega, rfl⟩
            · have q5 : ((K : Int) == 5) = false := by simp; omega
              have q3 : ((K : Int) == 3) = false := by simp; omega
              have q4 : ((K : Int) == 4) = false := by simp; omega
              have HK := Lib.hid (And.intro h5 (And.intro h3 h4))
              clear h5 h3 h4
              go_wp2_with (fail)
              go_meet
              exact ⟨by unfold goneB; have := HK.out; simp [this.1, this.2.1, this.2.2], rfl⟩
          case rest =>
            obtain ⟨rfl, hw7⟩ := hcut
            rw [hw7]
            clear hw7
            cases hg : goneB K o.fr o.tt num p
            · rw [hg] at hK
              unfold Kept at hK
              rw [if_neg (by decide)] at hK
              obtain ⟨q, hq, e1, e2, e3, e4⟩ := hK
              have hF := HF.out
              unfold findR at hF
              have hil := (List.getElem?_eq_some_iff.1 hq).1
              rw [if_pos hil] at hF
              generalize fnd Tl p.num = i at *
              subst hF
              obtain ⟨qn, qf, qt, qbs, qs⟩ := q
              dsimp only at e1 e2 e3 e4
              subst e1 e2
              have HE := Lib.hid (And.intro e3 e4)
              clear e3 e4
              obtain ⟨qb', qo, a9, c9, rfl, r0', r1, r2, r3, r4, od, hd⟩ := (hP6.ext xs).at i _ hq
              dsimp only at r0' r1 r2 r3 r4 hd
              have x9 := (Ext.refl [] w7).alloc (.cells #[.int .u64 (qn : Int), .int .i64 p.fr, .int .i64 p.to, .slice a9 qbs.length c9, .bool qs] 33)
              have f9 := Blk.new w7 [.int .u64 (qn : Int), .int .i64 p.fr, .int .i64 p.to, .slice a9 qbs.length c9, .bool qs] 33
              have hi0 : (i : Int) < (Tl.length : Int) := by omega
              have hi1 : decide ((i : Int) < 0) = false := by simp
              have hd := hd.ext x9 (by simp)
              have hb := hb.ext x9 (by simp)
              have xv := xs.trans x9
              have g1 := g1.ext x9 (by simp)
              clear HF hq
              have HG := Lib.hid hg
              clear hg g0 g1' g2 g3 g4 k1 k2
              go_upto_region 20 with (fail)
              generalize w7.alloc (.cells #[.int .u64 (qn : Int), .int .i64 p.fr, .int .i64 p.to, .slice a9 qbs.length c9, .bool qs] 33) = V9 at *
              generalize w7.heap.size = qb at *
              obtain ⟨g0, g1', g2, g3, g4⟩ := g1.c5
              obtain ⟨f0, f1, f2, f3, f4⟩ := f9.c5
              have eq := Equal_any V9 _ _ od oc qbs p.bs hd hb
              rw [HE.out.1] at eq
              go_cut [14] (fun z wx => z = .bool (ownB K num p) ∧ wx = V9)
              case first =>
                clear eq hd hb f9 f0 f1 f2 f3 f4 g1' g2 g3 g4 t0 t1 r0' r1 r2 r3 r4
                by_cases hk : K = 7
                · have q7 : ((K : Int) == 7) = true := by simp; omega
                  have HK := Lib.hid hk
                  clear hk
                  cases hn : ((p.num : Int) == (num : Int))
                  · go_wp2_with (fail)
                    go_meet
                    exact ⟨by unfold ownB; rw [HK.out]; simp at hn ⊢; omega, rfl⟩
                  · go_wp2_with (fail)
                    go_meet
                    exact ⟨by unfold ownB; rw [HK.out]; simp at hn ⊢; omega, rfl⟩
                · have q7 : ((K : Int) == 7) = false := by simp; omega
                  have HK := Lib.hid hk
                  clear hk
                  go_wp2_with (fail)
                  go_meet
                  exact ⟨by unfold ownB; have := HK.out; simp [this], rfl⟩
              case rest =>
                obtain ⟨rfl, hv9⟩ := hcut
                rw [hv9]
                clear hv9
                have e4 := HE.out.2
                generalize ownB K num p = own at *
                generalize hps : p.sp = ps at *
                have HX := Lib.hid hps
                clear hps hd hb HE
                subst e4
                cases own <;> cases ps
                all_goals
                  go_wp2_with (go_at_call 34; (with_reducible refine eq.mono ?_); rintro e w10 ⟨rfl, rfl⟩)
                  go_roundw
                  case rel => exact ⟨j + 1, by omega, by go_num, xv⟩
                  case measure => simp [intOf]; omega
            · rw [hg] at hK
              unfold Kept at hK
              rw [if_pos rfl] at hK
              have hF := HF.out
              unfold findR at hF
              rw [if_neg (by omega)] at hF
              subst hF
              have HG := Lib.hid hg
              clear hg HF hK
              go_wp2_with (fail)
              go_roundw
              case rel => exact ⟨j + 1, by omega, by go_num, xs⟩
              case measure => simp [intOf]; omega
        · obtain rfl : j = L.length := by omega
          have m0 := cells_ext xr m0
          have m1 := cells_ext xr m1
          have t0 := cells_ext xr t0
          have t1 := cells_ext xr t1
          have hle : ((Tl.length : Int) ≤ (L.length : Int) + 1) := by omega
          have hle' : decide ((Tl.length : Int) ≤ (L.length : Int) + 1) = true := by simpa using hle
          go_wp2_with (fail)
          go_ret
          exact ⟨rfl, (hE6.trans xr).below⟩
    · have rn := fun W' (x : Ext [] W W') => run_none W' o a c ob h s _ L (hP2.ext x) (by omega) (hB.ext x (by simp)) he
      clear he
      go_wp2_with (first
        | (go_at_call 17; (with_reducible refine ck.mono ?_); rintro e w3 ⟨rfl, x3⟩; have m0 := cells_ext x3 m0; have m1 := cells_ext x3 m1; have k0 := cells_ext x3 k0; have k1 := cells_ext x3 k1; have k2 := cells_ext x3 k2; have k3 := cells_ext x3 k3; have k4 := cells_ext x3 k4; have k5 := cells_ext x3 k5; have k6 := cells_ext x3 k6; have k7 := cells_ext x3 k7)
        | (go_at_call 28; (with_reducible refine (nm _ x3).mono ?_); rintro e w4 ⟨rfl, x4⟩; have m0 := cells_ext x4 m0; have m1 := cells_ext x4 m1; have k0 := cells_ext x4 k0; have k1 := cells_ext x4 k1; have k2 := cells_ext x4 k2; have k3 := cells_ext x4 k3; have k4 := cells_ext x4 k4; have k5 := cells_ext x4 k5; have k6 := cells_ext x4 k6; have k7 := cells_ext x4 k7; have x4 := x3.trans x4)
        | (go_at_call 11; (with_reducible refine (rn _ x4).mono ?_); rintro e w5 ⟨tn, r0, tg, rf, rt, te, ba, bn, bc, rs, a5, c5, rfl, ht, x5⟩))
      go_ret
      exact ⟨rfl, (((hE.trans x4).trans x5).trans ((Ext.refl [] w5).alloc _)).below⟩
end Go.Proofs.Ytpdfmeaemlgniaa
