
/-
  NetSends's walk.
-/
import Derived.Test.YtpdfmeaemlgniaaNetSeA
import Derived.Test.YtpdfmeaemlgniaaHeld
import Derived.Deep.DeepCutAuto
namespace Go.Proofs.Ytpdfmeaemlgniaa
open Go.RowKit Go.Maps
open Go.Lib hiding intOf
set_option linter.unusedVariables false
set_option linter.unusedSimpArgs false
def orow (x : OX) : List Value := [.int .i64 x.o.kind, .int .i64 x.o.fr, .int .i64 x.o.tt, .int .i64 x.o.at_, .int .i64 x.o.place, .bool x.o.other, .int .u8 (x.o.by_.toNat : Int), .slice x.a x.o.bs.length x.c]
theorem wideO : Wide orow 8 := ⟨by decide, fun _ => rfl⟩
abbrev orows (l : List OX) : List Value := flat orow l
abbrev zOV : Value := .agg #[.int .i64 0, .int .i64 0, .int .i64 0, .int .i64 0, .int .i64 0, .bool false, .int .u8 0, .slice none 0 0]
theorem TOp : SliceTy Try.prog 26 31 8 72 zOV := SliceTy.mk' (by kernel_rfl) (by kernel_rfl) rfl (by decide)
theorem one_op (o : OpR) (a : Option Addr) (c : Nat) : ∀ u ∈ orow ⟨o, a, c, 0⟩, u.oneCell' = true := by
  intro u hu
  simp [orow] at hu
  rcases hu with rfl | rfl | rfl | rfl | rfl | rfl | rfl | rfl <;> rfl
/-- written elsewhere: into blocks that hold neither parcels nor bytes -/
theorem OPs.far {A : Nat} {X : List Nat} {w w' : World} {v : Value} {l : List Par} {rs : List PRaw} (h : OPs A w v l rs) (he : Ext X w w') (hX : ∀ b ∈ X, ∀ cs e, w.heap[b]? = some (.cells cs e (0, 0)) → e ≠ 5 ∧ e ≠ 33) : OPs A w' v l rs := by
  refine ⟨own_ext h.own he fun k hk m => ?_, ⟨h.all.1, fun k r p k1 k2 => (h.all.2 k r p k1 k2).keep he fun c hc m => ?_⟩, h.sep⟩
  · obtain ⟨_, _, cs, hh⟩ := own_block h.own hk
    exact (hX k m cs _ hh).2 rfl
  · obtain ⟨_, _, cs, hh⟩ := own_block (h.all.2 k r p k1 k2).2.2.2.2 hc
    exact (hX c m cs _ hh).1 rfl
theorem own_typed {A e size n : Nat} {X : List Nat} {w : World} {v : Value} {xs : List Value} (h : w.ownsRow A e size v n xs) (hX : ∀ b ∈ X, ∀ cs, w.heap[b]? ≠ some (.cells cs e (0, 0))) : ∀ k, v.ownBlock = some k → k ∉ X := fun k hk m => by
  obtain ⟨_, _, cs, hh⟩ := own_block h hk
  exact hX k m cs hh
theorem OM.not_cells {w : World} {b n : Nat} {ov : Nat → Bool} (h : OM w b n ov) (cs : Array Value) (e : TypeId) (f : Nat × Nat) : w.heap[b]? ≠ some (.cells cs e f) := by
  obtain ⟨D, ⟨es, clock, hb, _⟩, _⟩ := h
  rw [hb]; simp
abbrev SOk (w : World) (L : List OX) : Prop := ∀ x ∈ L, Bs w (.slice x.a x.o.bs.length x.c) x.ob x.o.bs ∧ x.o.in64
theorem onWay_succ {L : List OpR} {f t : Int} {j q : Nat} {x : OpR} (h : L[j]? = some x) : onWay L f t (j + 1) q = (((q == j + 1) && (x.fr == f && x.tt == t)) || onWay L f t j q) := by
  unfold onWay
  by_cases h1 : q = j + 1
  · subst h1
    have h2 : decide (j + 1 ≤ j) = false := by simp
    rw [Nat.add_sub_cancel, h, h2]
    simp
  · have h2 : decide (q ≤ j + 1) = decide (q ≤ j) := by rw [decide_eq_decide]; omega
    rw [h2, show (q == j + 1) = false by simpa using h1]
    simp
/-- one more is sent -/
theorem sendEnd {w w6 W6 : World} {sent : List OX} {sa a6 : Option Addr} {sc c6 nb n k ts tn : Nat} {ov : Nat → Bool} {tl : List Par} {x : OX} {P : Prop} {z : Value}
    (hown : w6.ownsRow w.heap.size 31 8 (.slice sa sent.length sc) sent.length (orows sent)) (hM : OM w6 (nb + 1) n ov) (hS : Hid (SOk w sent)) (hx : Bs w (.slice x.a x.o.bs.length x.c) x.ob x.o.bs) (hxi : x.o.in64)
    (hz : z = .slice a6 (sent.length + 1) c6) (r1 : W6.ownsRow w.heap.size 31 8 (.slice a6 (sent.length + 1) c6) (sent.length + 1) (orows sent ++ orow x)) (r2 : Ext (Value.slice sa sent.length sc).ownBlock.toList (w6.alloc (.cells (orow x).toArray 31)) W6)
    (hl : sent.length ≤ k) (hI : SInv (sent.map OX.o ++ [x.o]) ov ts tl) (hn : P → tn = (sent ++ [x]).length) :
    ∃ (sent' : List OX) (sa' : Option Addr) (sc' n' : Nat) (ov' : Nat → Bool), z = .slice sa' sent'.length sc' ∧ sent'.length ≤ k + 1 ∧ n' ≤ n + 61 ∧ Hid (W6.ownsRow w.heap.size 31 8 (.slice sa' sent'.length sc') sent'.length (orows sent')) ∧ OM W6 (nb + 1) n' ov' ∧ Hid (SInv (sent'.map OX.o) ov' ts tl) ∧ Hid (SOk w sent') ∧ Hid (P → tn = sent'.length) ∧ Ext ((nb + 1) :: (Value.slice sa sent.length sc).ownBlock.toList) w6 W6 := by
  have e1 : (sent ++ [x]).length = sent.length + 1 := by simp
  have xa := (Ext.refl [] w6).alloc (.cells (orow x).toArray 31)
  have hM' := hM.ext xa (by simp)
  have hown' := own_ext hown xa (fun _ _ => by simp)
  refine ⟨sent ++ [x], a6, c6, n, ov, by rw [hz, e1], by rw [e1]; omega, by omega, ?_, hM'.ext r2 (fun m => ?_), ?_, ?_, hn, ?_⟩
  · show World.ownsRow _ _ _ _ _ _ _
    rw [e1, orows, flat_append, flat_one]
    exact r1
  · obtain ⟨_, _, cs, h⟩ := own_block hown' (show (Value.slice sa sent.length sc).ownBlock = some (nb + 1) by simpa using m)
    exact hM'.not_cells _ _ _ h
  · show SInv _ _ _ _
    rw [List.map_append]; exact hI
  · intro y hy
    rcases List.mem_append.1 hy with hy | hy
    · exact hS.out y hy
    · simp at hy; subst hy; exact ⟨hx, hxi⟩
  · exact (xa.mono (by simp)).trans (r2.mono (fun k _ h => List.mem_cons_of_mem _ h))
set_option maxRecDepth 100000 in
set_option maxHeartbeats 16000000 in
theorem walkSends (w : World) (a : Option Addr) (c : Nat) (Lo : List OX) (hO : OpsAt w a Lo) (hLo : Lo.length ≤ maxLen) :
    Calls Try.prog 6 #[.slice a Lo.length c] w fun e w' => e = .returned (.bool true) ∧ Below w.heap.size w w' := by
  unfold maxLen at hLo
  have hmm := @run_makeMap Try.prog
  go_enter Try.func6, Try.ntmps6
  go_upto_region 3 with (go_at_call 9; (with_reducible refine (wakes_any _).mono ?_); rintro e w1 ⟨rfl, x1⟩)
  have hX := (x1.alloc (.cells #[.int .u64 0, .slice none 0 0] 25)).alloc (.map #[] 0)
  have b3 := (Blk.new w1 [.int .u64 0, .slice none 0 0] 25).ext ((Ext.refl [] _).alloc (.map #[] 0)) (by simp)
  have hM := OM.made (w1.alloc (.cells #[.int .u64 0, .slice none 0 0] 25))
  have hnb : w.heap.size ≤ w1.heap.size := x1.size
  have hX0 : Ext [] w ((w1.alloc (.cells #[.int .u64 0, .slice none 0 0] 25)).alloc (.map #[] 0)) := hX
  go_wp2_with (fail)
  generalize (w1.alloc (.cells #[.int .u64 0, .slice none 0 0] 25)).alloc (.map #[] 0) = W0 at *
  have hmb : (w1.alloc (.cells #[.int .u64 0, .slice none 0 0] 25)).heap.size = w1.heap.size + 1 := by simp
  rw [hmb] at hM
  clear hmb hX x1 hmm
  generalize w1.heap.size = nb at *
  go_loopw [4, 21] (fun x i wr => ∃ (k s n : Nat) (ov : Nat → Bool) (v' : Value) (ln : List Par) (rs : List PRaw) (sent : List OX) (sa : Option Addr) (sc : Nat), k ≤ Lo.length ∧ k ≤ 60 ∧ i = .int .i64 (k : Int) ∧ x = .slice sa sent.length sc ∧ sent.length ≤ k ∧ n ≤ k * 100 ∧ Hid (wr.ownsRow w.heap.size 31 8 (.slice sa sent.length sc) sent.length (orows sent)) ∧ Blk wr nb 25 [.int .u64 (s : Int), v'] ∧ Hid (OPs w.heap.size wr v' ln rs) ∧ OM wr (nb + 1) n ov ∧ Hid (SInv (sent.map OX.o) ov s ln) ∧ Hid (SOk w sent) ∧ Ext [] w wr) (fun _ i _ => Lo.length - (intOf i).toNat)
  case atStart => exact ⟨0, 0, 0, _, .slice none 0 0, [], [], [], none, 0, by omega, by omega, rfl, rfl, by simp, by omega, World.ownsRow_nil _ _ _ _, b3, OPs.nil _ _, hM, SInv.zero, (by intro x hx; cases hx), hX0⟩
  case round =>
    clear b3 hM hX0
    obtain ⟨k, s, n, ov, v', ln, rs, sent, sa, sc, hk, hk60, rfl, rfl, hsl, hn, hown, b3, hP, hM, hI, hS, hX⟩ := hrel
    obtain ⟨an, cn, rfl⟩ := hP.out.shape
    by_cases hkl : k < Lo.length
    · have hx : Lo[k]? = some Lo[k] := List.getElem?_eq_getElem hkl
      obtain ⟨-, hBw, hin⟩ := hO k _ hx
      obtain ⟨⟨pb', po, rfl, p0, p1, p2, p3, p4, p5, p6, p7⟩, hB, -⟩ := (hO.ext hX) k _ hx
      generalize Lo[k] = ox at *
      obtain ⟨o, oa, oc, ob⟩ := ox
      dsimp only at p0 p1 p2 p3 p4 p5 p6 p7 hB hin hBw
      have hk0 : (k : Int) < (Lo.length : Int) := by omega
      have x1 := (Ext.refl [] wr).alloc (.cells #[.int .i64 o.kind, .int .i64 o.fr, .int .i64 o.tt, .int .i64 o.at_, .int .i64 o.place, .bool o.other, .int .u8 (o.by_.toNat : Int), .slice oa o.bs.length oc] 31)
      have b7 := Blk.new wr [.int .i64 o.kind, .int .i64 o.fr, .int .i64 o.tt, .int .i64 o.at_, .int .i64 o.place, .bool o.other, .int .u8 (o.by_.toNat : Int), .slice oa o.bs.length oc] 31
      clear hx
      go_upto_region 9 with (fail)
      clear p0 p1 p2 p3 p4 p5 p6 p7
      by_cases hk6 : k = 60
      · subst hk6
        go_wp2_with (fail)
        go_ret
        exact ⟨rfl, (hX.trans x1).below⟩
      · have hk6' : ((k : Int) == 60) = false := by rw [beq_eq_false_iff_ne]; omega
        have hgb0 : ∀ g, (Value.slice sa sent.length sc).ownBlock = some g → g < wr.heap.size := fun g hg => (own_block hown.out hg).2.1
        replace hown := Lib.hid (own_ext hown.out x1 (fun _ _ => by simp))
        replace hP := Lib.hid (hP.out.ext x1)
        replace b3 := b3.ext x1 (by simp)
        replace hM := hM.ext x1 (by simp)
        replace hB := hB.ext x1 (by simp)
        replace hX := hX.trans x1
        clear x1
        generalize wr.alloc (.cells #[.int .i64 o.kind, .int .i64 o.fr, .int .i64 o.tt, .int .i64 o.at_, .int .i64 o.place, .bool o.other, .int .u8 (o.by_.toNat : Int), .slice oa o.bs.length oc] 31) = U at *
        generalize wr.heap.size = pb at *
        have hgb := Lib.hid hgb0
        clear hgb0
        have hss : s = sent.length := by have := hI.out.hs; rwa [List.length_map] at this
        subst hss
        obtain ⟨k0, k1, k2, k3, k4, k5, k6, k7⟩ := b7.c8
        obtain ⟨d0, d1⟩ := b3.c2
        have hrl := right_len hI.out.hr
        have hll : ln.length ≤ 20000 := hrl.2.1
        have nm := num_any U o oa oc hin sent.length _ ln hP.out.ps (by omega)
        have rn' := fun w' (x : Ext [] U w') => run_any w' o oa oc ob hin sent.length _ ln (hP.out.ps.ext x) (by omega) (hB.ext x (by simp))
        have kd := fun w' => kind_any w' o oa oc hin
        clear hrl
        go_upto_region 11 with (go_at_call 28; (with_reducible refine nm.mono ?_); rintro e w4 ⟨rfl, x4⟩; replace d0 := cells_ext x4 d0; replace d1 := cells_ext x4 d1; replace k0 := cells_ext x4 k0; replace k1 := cells_ext x4 k1; replace k2 := cells_ext x4 k2; replace k3 := cells_ext x4 k3; replace k4 := cells_ext x4 k4; replace k5 := cells_ext x4 k5; replace k6 := cells_ext x4 k6; replace k7 := cells_ext x4 k7)
        have hsz4 := x4.size
        go_upto_region 12 with (go_at_call 11; (with_reducible refine (rn' _ x4).mono ?_); rintro e w5 ⟨v3, rs3, r3, ⟨a3, n3, c3, rfl⟩, rfl, hO3, hI3, -, x5⟩; obtain ⟨ra, rc, hrb⟩ := own_shape hI3.2.2.2.2; obtain ⟨rn, rf, rt, rb, rsp⟩ := r3; dsimp only at hrb; subst hrb)
        have y5 := (Ext.refl [] w5).alloc (.cells #[.int .u64 ((o.tells sent.length ln).n.s : Int), .slice a3 n3 c3, .int .u64 ((o.tells sent.length ln).num : Int), .int .u64 (rn : Int), .int .i64 rf, .int .i64 rt, .slice ra (o.tells sent.length ln).p.bs.length rc, .bool rsp, .int .i64 ((o.tells sent.length ln).gone : Int), .int .i64 (o.tells sent.length ln).e] 36)
        have b9 := Blk.new w5 [.int .u64 ((o.tells sent.length ln).n.s : Int), .slice a3 n3 c3, .int .u64 ((o.tells sent.length ln).num : Int), .int .u64 (rn : Int), .int .i64 rf, .int .i64 rt, .slice ra (o.tells sent.length ln).p.bs.length rc, .bool rsp, .int .i64 ((o.tells sent.length ln).gone : Int), .int .i64 (o.tells sent.length ln).e] 36
        have xV := (x4.trans x5).trans y5
        replace hO3 := hO3.ext y5
        replace hI3 := hI3.keep y5 (fun _ _ => by simp)
        replace hown := Lib.hid (own_ext hown.out xV (fun _ _ => by simp))
        replace hP := Lib.hid (hP.out.ext xV)
        replace b3 := b3.ext xV (by simp)
        replace b7 := b7.ext xV (by simp)
        replace hM := hM.ext xV (by simp)
        have hUw := hX.size
        replace hX := hX.trans xV
        have hO4 := hO3.mono (A := w.heap.size) (by omega)
        clear k0 k1 k2 k3 k4 k5 k6 k7 d0 d1 nm rn' x4 x5 y5 xV hO3 hB hUw
        generalize w5.alloc (.cells #[.int .u64 ((o.tells sent.length ln).n.s : Int), .slice a3 n3 c3, .int .u64 ((o.tells sent.length ln).num : Int), .int .u64 (rn : Int), .int .i64 rf, .int .i64 rt, .slice ra (o.tells sent.length ln).p.bs.length rc, .bool rsp, .int .i64 ((o.tells sent.length ln).gone : Int), .int .i64 (o.tells sent.length ln).e] 36) = V at *
        generalize w5.heap.size = tb at *
        generalize w4.heap.size = A4 at *
        obtain ⟨t0, t1, t2, t3, t4, t5, t6, t7, t8, t9⟩ := b9.c10
        by_cases he : (o.tells sent.length ln).e = 0
        · have c0 : Hid (o.knd < 3 → (o.tells sent.length ln).num = sent.length + 1 ∧ (o.tells sent.length ln).n.s = sent.length + 1 ∧ SInv (sent.map OX.o ++ [o]) ov (sent.length + 1) (o.tells sent.length ln).n.ps) := fun hk => hI.out.send hk he
          have c6 : Hid (o.knd = 6 → 1 ≤ o.num ln ∧ o.num ln ≤ sent.length ∧ (o.tells sent.length ln).num = sent.length + 1 ∧ (o.tells sent.length ln).n.s = sent.length + 1 ∧ ∃ x, (sent.map OX.o)[o.num ln - 1]? = some x ∧ SInv (sent.map OX.o ++ [x]) ov (sent.length + 1) (o.tells sent.length ln).n.ps) := fun hk => hI.out.twin hk he
          have c3 : Hid (o.knd = 3 → 1 ≤ o.num ln ∧ o.num ln ≤ sent.length ∧ ov (o.num ln) = false ∧ (o.tells sent.length ln).n.s = sent.length ∧ (∃ x, (sent.map OX.o)[o.num ln - 1]? = some x ∧ (o.tells sent.length ln).p.num = o.num ln ∧ (o.tells sent.length ln).p.fr = x.fr ∧ (o.tells sent.length ln).p.to = x.tt ∧ dist (o.tells sent.length ln).p.bs x.bts = if (o.tells sent.length ln).p.sp = true then 1 else 0) ∧ SInv (sent.map OX.o) (fun j => j == o.num ln || ov j) sent.length (o.tells sent.length ln).n.ps) := fun hk => hI.out.come hk he
          have c4 : Hid (o.knd = 4 → 1 ≤ o.num ln ∧ o.num ln ≤ sent.length ∧ (o.tells sent.length ln).n.s = sent.length ∧ SInv (sent.map OX.o) (fun j => j == o.num ln || ov j) sent.length (o.tells sent.length ln).n.ps) := fun hk => hI.out.lose hk he
          have c5 : Hid (o.knd = 5 → (o.tells sent.length ln).n.s = sent.length ∧ SInv (sent.map OX.o) (fun k => onWay (sent.map OX.o) o.fr o.tt (sent.map OX.o).length k || ov k) sent.length (o.tells sent.length ln).n.ps) := fun hk => hI.out.dropped hk he
          have c7 : Hid (o.knd = 7 → (o.tells sent.length ln).n.s = sent.length ∧ SInv (sent.map OX.o) ov sent.length (o.tells sent.length ln).n.ps) := fun hk => hI.out.spoil hk he
          have hK8 := knd_lt o
          generalize o.tells sent.length ln = T at *
          generalize o.num ln = num at *
          obtain ⟨⟨ts, tl⟩, tn, tp, tg, te⟩ := T
          dsimp only at *
          subst he
          generalize o.knd = K at *
          obtain ⟨k0, k1, k2, k3, k4, k5, k6, k7⟩ := b7.c8
          go_upto_block 2 with (go_at_call 29; (with_reducible refine (kd _).mono ?_); rintro e w6 ⟨rfl, x6⟩)
          replace hown := Lib.hid (own_ext hown.out x6 (fun _ _ => by simp))
          replace b3 := b3.ext x6 (by simp)
          replace b7 := b7.ext x6 (by simp)
          replace b9 := b9.ext x6 (by simp)
          replace hM := hM.ext x6 (by simp)
          replace hO4 := hO4.ext x6
          replace hI3 := hI3.keep x6 (fun _ _ => by simp)
          replace hX := hX.trans x6
          clear k0 k1 k2 k3 k4 k5 k6 k7 t0 t1 t2 t3 t4 t5 t6 t7 t8 t9 x6 hP hI
          have hMb : ∀ cs e f, w6.heap[nb + 1]? ≠ some (.cells cs e f) := hM.not_cells
          go_cut [4] (fun z wx => ∃ (sent' : List OX) (sa' : Option Addr) (sc' n' : Nat) (ov' : Nat → Bool), z = .slice sa' sent'.length sc' ∧ sent'.length ≤ k + 1 ∧ n' ≤ n + 61 ∧ Hid (wx.ownsRow w.heap.size 31 8 (.slice sa' sent'.length sc') sent'.length (orows sent')) ∧ OM wx (nb + 1) n' ov' ∧ Hid (SInv (sent'.map OX.o) ov' ts tl) ∧ Hid (SOk w sent') ∧ Hid ((K < 3 ∨ K = 6) → tn = sent'.length) ∧ Ext ((nb + 1) :: (Value.slice sa sent.length sc).ownBlock.toList) w6 wx)
          case first =>
            rcases (show K = 0 ∨ K = 1 ∨ K = 2 ∨ K = 3 ∨ K = 4 ∨ K = 5 ∨ K = 6 ∨ K = 7 by omega) with hk | hk | hk | hk | hk | hk | hk | hk
            · have q0 : ((K : Int) == 0) = true := by simp; omega
              have HC := Lib.hid (c0.out (by omega))
              have HK := Lib.hid hk
              clear hk c0 c3 c4 c5 c6 c7 hK8
              obtain ⟨k0, k1, k2, k3, k4, k5, k6, k7⟩ := b7.c8
              go_wp2_with (at_builtin; refine wpList_append_sl TOp rfl (.tmp 43) (.tmp 45) rfl rfl (own_ext hown.out ((Ext.refl [] w6).alloc (.cells #[.int .i64 o.kind, .int .i64 o.fr, .int .i64 o.tt, .int .i64 o.at_, .int .i64 o.place, .bool o.other, .int .u8 (o.by_.toNat : Int), .slice oa o.bs.length oc] 31)) (fun _ _ => by simp)) rfl (Sl.lit w6 [.int .i64 o.kind, .int .i64 o.fr, .int .i64 o.tt, .int .i64 o.at_, .int .i64 o.place, .bool o.other, .int .u8 (o.by_.toNat : Int), .slice oa o.bs.length oc] 31 8 1 rfl (by decide)) (one_op o oa oc) (by unfold maxLen; omega) (by omega) (by have := hX.size; simp; omega) ?_; intro v6 W6 r1 r2; obtain ⟨a6, c6', rfl⟩ := own_shape r1); go_meet; exact sendEnd (x := ⟨o, oa, oc, ob⟩) hown.out hM hS hBw hin rfl r1 r2 (by omega) (by have := HC.out.2.1; subst this; exact HC.out.2.2) (fun _ => by have := HC.out.1; simp; omega)
            · have q0 : ((K : Int) == 0) = false := by simp; omega
              have q1 : ((K : Int) == 1) = true := by simp; omega
              have HC := Lib.hid (c0.out (by omega))
              have HK := Lib.hid hk
              clear hk c0 c3 c4 c5 c6 c7 hK8
              obtain ⟨k0, k1, k2, k3, k4, k5, k6, k7⟩ := b7.c8
              go_wp2_with (at_builtin; refine wpList_append_sl TOp rfl (.tmp 43) (.tmp 45) rfl rfl (own_ext hown.out ((Ext.refl [] w6).alloc (.cells #[.int .i64 o.kind, .int .i64 o.fr, .int .i64 o.tt, .int .i64 o.at_, .int .i64 o.place, .bool o.other, .int .u8 (o.by_.toNat : Int), .slice oa o.bs.length oc] 31)) (fun _ _ => by simp)) rfl (Sl.lit w6 [.int .i64 o.kind, .int .i64 o.fr, .int .i64 o.tt, .int .i64 o.at_, .int .i64 o.place, .bool o.other, .int .u8 (o.by_.toNat : Int), .slice oa o.bs.length oc] 31 8 1 rfl (by decide)) (one_op o oa oc) (by unfold maxLen; omega) (by omega) (by have := hX.size; simp; omega) ?_; intro v6 W6 r1 r2; obtain ⟨a6, c6', rfl⟩ := own_shape r1); go_meet; exact sendEnd (x := ⟨o, oa, oc, ob⟩) hown.out hM hS hBw hin rfl r1 r2 (by omega) (by have := HC.out.2.1; subst this; exact HC.out.2.2) (fun _ => by have := HC.out.1; simp; omega)
            · have q0 : ((K : Int) == 0) = false := by simp; omega
              have q1 : ((K : Int) == 1) = false := by simp; omega
              have q2 : ((K : Int) == 2) = true := by simp; omega
              have HC := Lib.hid (c0.out (by omega))
              have HK := Lib.hid hk
              clear hk c0 c3 c4 c5 c6 c7 hK8
              obtain ⟨k0, k1, k2, k3, k4, k5, k6, k7⟩ := b7.c8
              go_wp2_with (at_builtin; refine wpList_append_sl TOp rfl (.tmp 43) (.tmp 45) rfl rfl (own_ext hown.out ((Ext.refl [] w6).alloc (.cells #[.int .i64 o.kind, .int .i64 o.fr, .int .i64 o.tt, .int .i64 o.at_, .int .i64 o.place, .bool o.other, .int .u8 (o.by_.toNat : Int), .slice oa o.bs.length oc] 31)) (fun _ _ => by simp)) rfl (Sl.lit w6 [.int .i64 o.kind, .int .i64 o.fr, .int .i64 o.tt, .int .i64 o.at_, .int .i64 o.place, .bool o.other, .int .u8 (o.by_.toNat : Int), .slice oa o.bs.length oc] 31 8 1 rfl (by decide)) (one_op o oa oc) (by unfold maxLen; omega) (by omega) (by have := hX.size; simp; omega) ?_; intro v6 W6 r1 r2; obtain ⟨a6, c6', rfl⟩ := own_shape r1); go_meet; exact sendEnd (x := ⟨o, oa, oc, ob⟩) hown.out hM hS hBw hin rfl r1 r2 (by omega) (by have := HC.out.2.1; subst this; exact HC.out.2.2) (fun _ => by have := HC.out.1; simp; omega)
            · as_aux_lemma =>
              have q0 : ((K : Int) == 0) = false := by simp; omega
              have q1 : ((K : Int) == 1) = false := by simp; omega
              have q2 : ((K : Int) == 2) = false := by simp; omega
              have q6 : ((K : Int) == 6) = false := by simp; omega
              have q3 : ((K : Int) == 3) = true := by simp; omega
              obtain ⟨hn1, hn2, hov, hts, ⟨x, hx, hpn, hpf, hpt, hpd⟩, hIx⟩ := c3.out (by omega)
              rw [List.getElem?_map, Option.map_eq_some_iff] at hx
              obtain ⟨y, hy, rfl⟩ := hx
              have HK := Lib.hid hk
              have hyS := hS.out y (List.mem_of_getElem? hy)
              obtain ⟨j, hj⟩ : ∃ j, num - 1 = j := ⟨_, rfl⟩
              rw [hj] at hy
              have g1 : decide ((num : Int) < 1) = false := by simp; omega
              have g2 : decide ((num : Int) > (sent.length : Int)) = false := by simp; omega
              have g2' : ¬ ((sent.length : Int) < (num : Int)) := by omega
              have g2'' : decide ((sent.length : Int) < (num : Int)) = false := by simp; omega
              have hcv : IntKind.u64.wrap (sent.length : Int) = (sent.length : Int) := by rw [IntKind.wrap_u64]; omega
              have hsb : IntKind.u64.wrap ((num : Int) - 1) = (j : Int) := by rw [IntKind.wrap_u64]; omega
              have hj0 : (j : Int) < (sent.length : Int) := by omega
              have hlk := hM.look num (by omega)
              rw [hov] at hlk
              obtain ⟨obS, hSS, -⟩ := Sl.of_own hown.out
              obtain ⟨oS, haS, hcS⟩ := Sl.flat_cells wideO hSS j y hy
              have p0 : w6.cell? ⟨obS, oS + j * 8, none⟩ = some (.int .i64 y.o.kind) := hcS 0 _ rfl
              have p1 : w6.cell? ⟨obS, oS + j * 8 + 1, none⟩ = some (.int .i64 y.o.fr) := hcS 1 _ rfl
              have p2 : w6.cell? ⟨obS, oS + j * 8 + 2, none⟩ = some (.int .i64 y.o.tt) := hcS 2 _ rfl
              have p3 : w6.cell? ⟨obS, oS + j * 8 + 3, none⟩ = some (.int .i64 y.o.at_) := hcS 3 _ rfl
              have p4 : w6.cell? ⟨obS, oS + j * 8 + 4, none⟩ = some (.int .i64 y.o.place) := hcS 4 _ rfl
              have p5 : w6.cell? ⟨obS, oS + j * 8 + 5, none⟩ = some (.bool y.o.other) := hcS 5 _ rfl
              have p6 : w6.cell? ⟨obS, oS + j * 8 + 6, none⟩ = some (.int .u8 (y.o.by_.toNat : Int)) := hcS 6 _ rfl
              have p7 : w6.cell? ⟨obS, oS + j * 8 + 7, none⟩ = some (.slice y.a y.o.bs.length y.c) := hcS 7 _ rfl
              subst haS
              obtain ⟨⟨yk, yf, yt, ya, yp, yo, yb, ybs⟩, yaa, yc, yob⟩ := y
              obtain ⟨i1, i2, i3, i4, i5⟩ := hI3
              dsimp only at p0 p1 p2 p3 p4 p5 p6 p7 hyS hpf hpt hpd i1 i2 i3 i4 i5
              have e1 : rn = num := i1.trans hpn
              have e2 : rf = yf := i2.trans hpf
              have e3 : rt = yt := i3.trans hpt
              rw [e1, e2, e3] at b9
              rw [← i4] at hpd
              have hIxH := Lib.hid hIx
              have hbl : tp.bs.length ≤ 100000 := by
                have h1 : OpR.bts ⟨yk, yf, yt, ya, yp, yo, yb, ybs⟩ = ybs.take 60001 := rfl
                rw [h1] at hpd
                have h2 : (ybs.take 60001).length ≤ 60001 := by rw [List.length_take]; omega
                unfold dist at hpd
                split at hpd <;> omega
              have hbt : (OpR.bts ⟨yk, yf, yt, ya, yp, yo, yb, ybs⟩).length ≤ 100000 := by show (ybs.take 60001).length ≤ _; rw [List.length_take]; omega
              obtain ⟨obr, hbr, -⟩ := Sl.of_own i5
              have hbr : Bs w6 (.slice ra tp.bs.length rc) obr tp.bs := hbr
              have hyB : Bs w6 (.slice yaa ybs.length yc) yob ybs := hyS.1.ext hX (by simp)
              have hyI := hyS.2
              have hts' := Lib.hid hts
              clear hk c0 c3 c4 c5 c6 c7 hK8 hcS hSS hy hn1 hts hIx i1 i2 i3 i4 i5 hpn hpf hpt e1 e2 e3 hov hyS
              obtain ⟨t0, t1, t2, t3, t4, t5, t6, t7, t8, t9⟩ := b9.c10
              have x13 := (Ext.refl [] w6).alloc (.cells #[.int .i64 yk, .int .i64 yf, .int .i64 yt, .int .i64 ya, .int .i64 yp, .bool yo, .int .u8 (yb.toNat : Int), .slice yaa ybs.length yc] 31)
              have b13 := Blk.new w6 [.int .i64 yk, .int .i64 yf, .int .i64 yt, .int .i64 ya, .int .i64 yp, .bool yo, .int .u8 (yb.toNat : Int), .slice yaa ybs.length yc] 31
              go_upto_region 26 with (fail)
              replace b9 := b9.ext x13 (by simp)
              have hM3 := hM.ext x13 (by simp)
              replace hbr := hbr.ext x13 (by simp)
              replace hyB := hyB.ext x13 (by simp)
              generalize w6.alloc (.cells #[.int .i64 yk, .int .i64 yf, .int .i64 yt, .int .i64 ya, .int .i64 yp, .bool yo, .int .u8 (yb.toNat : Int), .slice yaa ybs.length yc] 31) = U13 at *
              generalize w6.heap.size = ub at *
              clear p0 p1 p2 p3 p4 p5 p6 p7 t0 t1 t2 t3 t4 t5 t6 t7 t8 t9 g1 g2 g2' g2'' hlk
              obtain ⟨p0, p1, p2, p3, p4, p5, p6, p7⟩ := b13.c8
              obtain ⟨t0, t1, t2, t3, t4, t5, t6, t7, t8, t9⟩ := b9.c10
              have bt := fun w' (x : Ext [] U13 w') => bytes_any w' ⟨yk, yf, yt, ya, yp, yo, yb, ybs⟩ yaa yc yob (hyB.ext x (by simp))
              have ot := fun w' (x : Ext [] U13 w') b cb ob' (hb : Bs w' (.slice b (OpR.bts ⟨yk, yf, yt, ya, yp, yo, yb, ybs⟩).length cb) ob' (OpR.bts ⟨yk, yf, yt, ya, yp, yo, yb, ybs⟩)) => other_any w' ra b rc cb obr ob' tp.bs _ (hbr.ext x (by simp)) hb hbl hbt
              generalize (OpR.bts ⟨yk, yf, yt, ya, yp, yo, yb, ybs⟩) = M at *
              cases rsp
              · rw [if_neg (by decide)] at hpd
                have ot0 := fun w' (x : Ext [] U13 w') b cb ob' hb => (ot w' x b cb ob' hb).mono (R' := fun e w'' => e = .returned (.int .i64 0) ∧ Ext [] w' w'') (by rintro e w'' ⟨rfl, h⟩; exact ⟨by rw [hpd]; rfl, h⟩)
                clear ot hpd
                go_upto_region 29 with (fail)
                have hS0 : Ext [] U13 U13.drew := (Ext.refl [] U13).drew
                refine region_but (fun u => Ext [] U13 u) [] 24 rfl (by kernel_rfl) ?_
                generalize U13.drew = D0 at *
                refine HeldBut.take (i := 0) (v := ?_) rfl (by kernel_rfl) (by kernel_rfl) (by kernel_rfl) (by kernel_rfl) (fun _ _ _ h => h) (Or.inl ⟨by kernel_rfl, ?_⟩) hS0 ?_; rotate_left 1; (focus (intro u hu; (try dsimp only at hu); have p0 := cells_ext hu p0; have p1 := cells_ext hu p1; have p2 := cells_ext hu p2; have p3 := cells_ext hu p3; have p4 := cells_ext hu p4; have p5 := cells_ext hu p5; have p6 := cells_ext hu p6; have p7 := cells_ext hu p7; have t4 := cells_ext hu t4; have t5 := cells_ext hu t5; have t6 := cells_ext hu t6; clear hu; go_simp; try with_reducible rfl))
                try simp only [Act.put, List.getElem_toArray, List.getElem_cons_zero, List.getElem_cons_succ, List.setIfInBounds_toArray, List.set_cons_zero, List.set_cons_succ]
                refine HeldBut.take (i := 1) (v := ?_) rfl (by kernel_rfl) (by kernel_rfl) (by kernel_rfl) (by kernel_rfl) (fun _ _ _ h => h) (Or.inl ⟨by kernel_rfl, ?_⟩) hS0 ?_; rotate_left 1; (focus (intro u hu; (try dsimp only at hu); have p0 := cells_ext hu p0; have p1 := cells_ext hu p1; have p2 := cells_ext hu p2; have p3 := cells_ext hu p3; have p4 := cells_ext hu p4; have p5 := cells_ext hu p5; have p6 := cells_ext hu p6; have p7 := cells_ext hu p7; have t4 := cells_ext hu t4; have t5 := cells_ext hu t5; have t6 := cells_ext hu t6; clear hu; go_simp; try with_reducible rfl))
                try simp only [Act.put, List.getElem_toArray, List.getElem_cons_zero, List.getElem_cons_succ, List.setIfInBounds_toArray, List.set_cons_zero, List.set_cons_succ]
                refine HeldBut.take (i := 2) (v := ?_) rfl (by kernel_rfl) (by kernel_rfl) (by kernel_rfl) (by kernel_rfl) (fun _ _ _ h => h) (Or.inl ⟨by kernel_rfl, ?_⟩) hS0 ?_; rotate_left 1; (focus (intro u hu; (try dsimp only at hu); have p0 := cells_ext hu p0; have p1 := cells_ext hu p1; have p2 := cells_ext hu p2; have p3 := cells_ext hu p3; have p4 := cells_ext hu p4; have p5 := cells_ext hu p5; have p6 := cells_ext hu p6; have p7 := cells_ext hu p7; have t4 := cells_ext hu t4; have t5 := cells_ext hu t5; have t6 := cells_ext hu t6; clear hu; go_simp; try with_reducible rfl))
                try simp only [Act.put, List.getElem_toArray, List.getElem_cons_zero, List.getElem_cons_succ, List.setIfInBounds_toArray, List.set_cons_zero, List.set_cons_succ]
                refine HeldBut.take (i := 3) (v := ?_) rfl (by kernel_rfl) (by kernel_rfl) (by kernel_rfl) (by kernel_rfl) (fun _ _ _ h => h) (Or.inl ⟨by kernel_rfl, ?_⟩) hS0 ?_; rotate_left 1; (focus (intro u hu; (try dsimp only at hu); have p0 := cells_ext hu p0; have p1 := cells_ext hu p1; have p2 := cells_ext hu p2; have p3 := cells_ext hu p3; have p4 := cells_ext hu p4; have p5 := cells_ext hu p5; have p6 := cells_ext hu p6; have p7 := cells_ext hu p7; have t4 := cells_ext hu t4; have t5 := cells_ext hu t5; have t6 := cells_ext hu t6; clear hu; go_simp; try with_reducible rfl))
                try simp only [Act.put, List.getElem_toArray, List.getElem_cons_zero, List.getElem_cons_succ, List.setIfInBounds_toArray, List.set_cons_zero, List.set_cons_succ]
                refine HeldBut.take (i := 4) (v := ?_) rfl (by kernel_rfl) (by kernel_rfl) (by kernel_rfl) (by kernel_rfl) (fun _ _ _ h => h) (Or.inl ⟨by kernel_rfl, ?_⟩) hS0 ?_; rotate_left 1; (focus (intro u hu; (try dsimp only at hu); have p0 := cells_ext hu p0; have p1 := cells_ext hu p1; have p2 := cells_ext hu p2; have p3 := cells_ext hu p3; have p4 := cells_ext hu p4; have p5 := cells_ext hu p5; have p6 := cells_ext hu p6; have p7 := cells_ext hu p7; have t4 := cells_ext hu t4; have t5 := cells_ext hu t5; have t6 := cells_ext hu t6; clear hu; go_simp; try with_reducible rfl))
                try simp only [Act.put, List.getElem_toArray, List.getElem_cons_zero, List.getElem_cons_succ, List.setIfInBounds_toArray, List.set_cons_zero, List.set_cons_succ]
                refine HeldBut.take (i := 5) (v := ?_) rfl (by kernel_rfl) (by kernel_rfl) (by kernel_rfl) (by kernel_rfl) (fun _ _ _ h => h) (Or.inl ⟨by kernel_rfl, ?_⟩) hS0 ?_; rotate_left 1; (focus (intro u hu; (try dsimp only at hu); have p0 := cells_ext hu p0; have p1 := cells_ext hu p1; have p2 := cells_ext hu p2; have p3 := cells_ext hu p3; have p4 := cells_ext hu p4; have p5 := cells_ext hu p5; have p6 := cells_ext hu p6; have p7 := cells_ext hu p7; have t4 := cells_ext hu t4; have t5 := cells_ext hu t5; have t6 := cells_ext hu t6; clear hu; go_simp; try with_reducible rfl))
                try simp only [Act.put, List.getElem_toArray, List.getElem_cons_zero, List.getElem_cons_succ, List.setIfInBounds_toArray, List.set_cons_zero, List.set_cons_succ]
                refine HeldBut.take (i := 6) (v := ?_) rfl (by kernel_rfl) (by kernel_rfl) (by kernel_rfl) (by kernel_rfl) (fun _ _ _ h => h) (Or.inl ⟨by kernel_rfl, ?_⟩) hS0 ?_; rotate_left 1; (focus (intro u hu; (try dsimp only at hu); have p0 := cells_ext hu p0; have p1 := cells_ext hu p1; have p2 := cells_ext hu p2; have p3 := cells_ext hu p3; have p4 := cells_ext hu p4; have p5 := cells_ext hu p5; have p6 := cells_ext hu p6; have p7 := cells_ext hu p7; have t4 := cells_ext hu t4; have t5 := cells_ext hu t5; have t6 := cells_ext hu t6; clear hu; go_simp; try with_reducible rfl))
                try simp only [Act.put, List.getElem_toArray, List.getElem_cons_zero, List.getElem_cons_succ, List.setIfInBounds_toArray, List.set_cons_zero, List.set_cons_succ]
                refine HeldBut.take (i := 7) (v := ?_) rfl (by kernel_rfl) (by kernel_rfl) (by kernel_rfl) (by kernel_rfl) (fun _ _ _ h => h) (Or.inl ⟨by kernel_rfl, ?_⟩) hS0 ?_; rotate_left 1; (focus (intro u hu; (try dsimp only at hu); have p0 := cells_ext hu p0; have p1 := cells_ext hu p1; have p2 := cells_ext hu p2; have p3 := cells_ext hu p3; have p4 := cells_ext hu p4; have p5 := cells_ext hu p5; have p6 := cells_ext hu p6; have p7 := cells_ext hu p7; have t4 := cells_ext hu t4; have t5 := cells_ext hu t5; have t6 := cells_ext hu t6; clear hu; go_simp; try with_reducible rfl))
                try simp only [Act.put, List.getElem_toArray, List.getElem_cons_zero, List.getElem_cons_succ, List.setIfInBounds_toArray, List.set_cons_zero, List.set_cons_succ]
                refine HeldBut.take (i := 8) (v := ?_) rfl (by kernel_rfl) (by kernel_rfl) (by kernel_rfl) (by kernel_rfl) (fun _ _ _ h => h) (Or.inl ⟨by kernel_rfl, ?_⟩) hS0 ?_; rotate_left 1; (focus (intro u hu; (try dsimp only at hu); have p0 := cells_ext hu p0; have p1 := cells_ext hu p1; have p2 := cells_ext hu p2; have p3 := cells_ext hu p3; have p4 := cells_ext hu p4; have p5 := cells_ext hu p5; have p6 := cells_ext hu p6; have p7 := cells_ext hu p7; have t4 := cells_ext hu t4; have t5 := cells_ext hu t5; have t6 := cells_ext hu t6; clear hu; go_simp; try with_reducible rfl))
                try simp only [Act.put, List.getElem_toArray, List.getElem_cons_zero, List.getElem_cons_succ, List.setIfInBounds_toArray, List.set_cons_zero, List.set_cons_succ]
                refine HeldBut.take (i := 9) (v := ?_) rfl (by kernel_rfl) (by kernel_rfl) (by kernel_rfl) (by kernel_rfl) (fun _ _ _ h => h) (Or.inl ⟨by kernel_rfl, ?_⟩) hS0 ?_; rotate_left 1; (focus (intro u hu; (try dsimp only at hu); have p0 := cells_ext hu p0; have p1 := cells_ext hu p1; have p2 := cells_ext hu p2; have p3 := cells_ext hu p3; have p4 := cells_ext hu p4; have p5 := cells_ext hu p5; have p6 := cells_ext hu p6; have p7 := cells_ext hu p7; have t4 := cells_ext hu t4; have t5 := cells_ext hu t5; have t6 := cells_ext hu t6; clear hu; go_simp; try with_reducible rfl))
                try simp only [Act.put, List.getElem_toArray, List.getElem_cons_zero, List.getElem_cons_succ, List.setIfInBounds_toArray, List.set_cons_zero, List.set_cons_succ]
                refine HeldBut.take (i := 10) (v := ?_) rfl (by kernel_rfl) (by kernel_rfl) (by kernel_rfl) (by kernel_rfl) (fun _ _ _ h => h) (Or.inl ⟨by kernel_rfl, ?_⟩) hS0 ?_; rotate_left 1; (focus (intro u hu; (try dsimp only at hu); have p0 := cells_ext hu p0; have p1 := cells_ext hu p1; have p2 := cells_ext hu p2; have p3 := cells_ext hu p3; have p4 := cells_ext hu p4; have p5 := cells_ext hu p5; have p6 := cells_ext hu p6; have p7 := cells_ext hu p7; have t4 := cells_ext hu t4; have t5 := cells_ext hu t5; have t6 := cells_ext hu t6; clear hu; go_simp; try with_reducible rfl))
                try simp only [Act.put, List.getElem_toArray, List.getElem_cons_zero, List.getElem_cons_succ, List.setIfInBounds_toArray, List.set_cons_zero, List.set_cons_succ]
                refine HeldBut.take (i := 11) (v := ?_) rfl (by kernel_rfl) (by kernel_rfl) (by kernel_rfl) (by kernel_rfl) (fun _ _ _ h => h) (Or.inl ⟨by kernel_rfl, ?_⟩) hS0 ?_; rotate_left 1; (focus (intro u hu; (try dsimp only at hu); have p0 := cells_ext hu p0; have p1 := cells_ext hu p1; have p2 := cells_ext hu p2; have p3 := cells_ext hu p3; have p4 := cells_ext hu p4; have p5 := cells_ext hu p5; have p6 := cells_ext hu p6; have p7 := cells_ext hu p7; have t4 := cells_ext hu t4; have t5 := cells_ext hu t5; have t6 := cells_ext hu t6; clear hu; go_simp; try with_reducible rfl))
                try simp only [Act.put, List.getElem_toArray, List.getElem_cons_zero, List.getElem_cons_succ, List.setIfInBounds_toArray, List.set_cons_zero, List.set_cons_succ]
                refine HeldBut.take (i := 12) (v := ?_) rfl (by kernel_rfl) (by kernel_rfl) (by kernel_rfl) (by kernel_rfl) (fun _ _ _ h => h) (Or.inl ⟨by kernel_rfl, ?_⟩) hS0 ?_; rotate_left 1; (focus (intro u hu; (try dsimp only at hu); have p0 := cells_ext hu p0; have p1 := cells_ext hu p1; have p2 := cells_ext hu p2; have p3 := cells_ext hu p3; have p4 := cells_ext hu p4; have p5 := cells_ext hu p5; have p6 := cells_ext hu p6; have p7 := cells_ext hu p7; have t4 := cells_ext hu t4; have t5 := cells_ext hu t5; have t6 := cells_ext hu t6; clear hu; go_simp; try with_reducible rfl))
                try simp only [Act.put, List.getElem_toArray, List.getElem_cons_zero, List.getElem_cons_succ, List.setIfInBounds_toArray, List.set_cons_zero, List.set_cons_succ]
                refine HeldBut.take (i := 13) (v := ?_) rfl (by kernel_rfl) (by kernel_rfl) (by kernel_rfl) (by kernel_rfl) (fun _ _ _ h => h) (Or.inl ⟨by kernel_rfl, ?_⟩) hS0 ?_; rotate_left 1; (focus (intro u hu; (try dsimp only at hu); have p0 := cells_ext hu p0; have p1 := cells_ext hu p1; have p2 := cells_ext hu p2; have p3 := cells_ext hu p3; have p4 := cells_ext hu p4; have p5 := cells_ext hu p5; have p6 := cells_ext hu p6; have p7 := cells_ext hu p7; have t4 := cells_ext hu t4; have t5 := cells_ext hu t5; have t6 := cells_ext hu t6; clear hu; go_simp; try with_reducible rfl))
                try simp only [Act.put, List.getElem_toArray, List.getElem_cons_zero, List.getElem_cons_succ, List.setIfInBounds_toArray, List.set_cons_zero, List.set_cons_succ]
                refine HeldBut.take (i := 14) (v := ?_) rfl (by kernel_rfl) (by kernel_rfl) (by kernel_rfl) (by kernel_rfl) (fun _ _ _ h => h) (Or.inl ⟨by kernel_rfl, ?_⟩) hS0 ?_; rotate_left 1; (focus (intro u hu; (try dsimp only at hu); have p0 := cells_ext hu p0; have p1 := cells_ext hu p1; have p2 := cells_ext hu p2; have p3 := cells_ext hu p3; have p4 := cells_ext hu p4; have p5 := cells_ext hu p5; have p6 := cells_ext hu p6; have p7 := cells_ext hu p7; have t4 := cells_ext hu t4; have t5 := cells_ext hu t5; have t6 := cells_ext hu t6; clear hu; go_simp; try with_reducible rfl))
                try simp only [Act.put, List.getElem_toArray, List.getElem_cons_zero, List.getElem_cons_succ, List.setIfInBounds_toArray, List.set_cons_zero, List.set_cons_succ]
                refine HeldBut.take (i := 15) (v := ?_) rfl (by kernel_rfl) (by kernel_rfl) (by kernel_rfl) (by kernel_rfl) (fun _ _ _ h => h) (Or.inl ⟨by kernel_rfl, ?_⟩) hS0 ?_; rotate_left 1; (focus (intro u hu; (try dsimp only at hu); have p0 := cells_ext hu p0; have p1 := cells_ext hu p1; have p2 := cells_ext hu p2; have p3 := cells_ext hu p3; have p4 := cells_ext hu p4; have p5 := cells_ext hu p5; have p6 := cells_ext hu p6; have p7 := cells_ext hu p7; have t4 := cells_ext hu t4; have t5 := cells_ext hu t5; have t6 := cells_ext hu t6; clear hu; go_simp; try with_reducible rfl))
                try simp only [Act.put, List.getElem_toArray, List.getElem_cons_zero, List.getElem_cons_succ, List.setIfInBounds_toArray, List.set_cons_zero, List.set_cons_succ]
                refine HeldBut.take (i := 16) (v := ?_) rfl (by kernel_rfl) (by kernel_rfl) (by kernel_rfl) (by kernel_rfl) (fun _ _ _ h => h) (Or.inl ⟨by kernel_rfl, ?_⟩) hS0 ?_; rotate_left 1; (focus (intro u hu; (try dsimp only at hu); have p0 := cells_ext hu p0; have p1 := cells_ext hu p1; have p2 := cells_ext hu p2; have p3 := cells_ext hu p3; have p4 := cells_ext hu p4; have p5 := cells_ext hu p5; have p6 := cells_ext hu p6; have p7 := cells_ext hu p7; have t4 := cells_ext hu t4; have t5 := cells_ext hu t5; have t6 := cells_ext hu t6; clear hu; go_simp; try with_reducible rfl))
                try simp only [Act.put, List.getElem_toArray, List.getElem_cons_zero, List.getElem_cons_succ, List.setIfInBounds_toArray, List.set_cons_zero, List.set_cons_succ]
                refine HeldBut.take (i := 17) (v := ?_) rfl (by kernel_rfl) (by kernel_rfl) (by kernel_rfl) (by kernel_rfl) (fun _ _ _ h => h) (Or.inl ⟨by kernel_rfl, ?_⟩) hS0 ?_; rotate_left 1; (focus (intro u hu; (try dsimp only at hu); have p0 := cells_ext hu p0; have p1 := cells_ext hu p1; have p2 := cells_ext hu p2; have p3 := cells_ext hu p3; have p4 := cells_ext hu p4; have p5 := cells_ext hu p5; have p6 := cells_ext hu p6; have p7 := cells_ext hu p7; have t4 := cells_ext hu t4; have t5 := cells_ext hu t5; have t6 := cells_ext hu t6; clear hu; go_simp; try with_reducible rfl))
                try simp only [Act.put, List.getElem_toArray, List.getElem_cons_zero, List.getElem_cons_succ, List.setIfInBounds_toArray, List.set_cons_zero, List.set_cons_succ]
                refine HeldBut.take (i := 18) (v := ?_) rfl (by kernel_rfl) (by kernel_rfl) (by kernel_rfl) (by kernel_rfl) (fun _ _ _ h => h) (Or.inl ⟨by kernel_rfl, ?_⟩) hS0 ?_; rotate_left 1; (focus (intro u hu; (try dsimp only at hu); have p0 := cells_ext hu p0; have p1 := cells_ext hu p1; have p2 := cells_ext hu p2; have p3 := cells_ext hu p3; have p4 := cells_ext hu p4; have p5 := cells_ext hu p5; have p6 := cells_ext hu p6; have p7 := cells_ext hu p7; have t4 := cells_ext hu t4; have t5 := cells_ext hu t5; have t6 := cells_ext hu t6; clear hu; go_simp; try with_reducible rfl))
                try simp only [Act.put, List.getElem_toArray, List.getElem_cons_zero, List.getElem_cons_succ, List.setIfInBounds_toArray, List.set_cons_zero, List.set_cons_succ]
                refine HeldBut.take (i := 21) (v := ?_) rfl (by kernel_rfl) (by kernel_rfl) (by kernel_rfl) (by kernel_rfl) (fun _ _ _ h => h) (Or.inl ⟨by kernel_rfl, ?_⟩) hS0 ?_; rotate_left 1; (focus (intro u hu; (try dsimp only at hu); have p0 := cells_ext hu p0; have p1 := cells_ext hu p1; have p2 := cells_ext hu p2; have p3 := cells_ext hu p3; have p4 := cells_ext hu p4; have p5 := cells_ext hu p5; have p6 := cells_ext hu p6; have p7 := cells_ext hu p7; have t4 := cells_ext hu t4; have t5 := cells_ext hu t5; have t6 := cells_ext hu t6; clear hu; go_simp; try with_reducible rfl))
                try simp only [Act.put, List.getElem_toArray, List.getElem_cons_zero, List.getElem_cons_succ, List.setIfInBounds_toArray, List.set_cons_zero, List.set_cons_succ]
                clear p0 p1 p2 p3 p4 p5 p6 p7 t0 t1 t2 t3 t4 t5 t6 t7 t8 t9
                refine HeldBut.one (i := 19) (by kernel_rfl) ?_
                refine HeldBut.step (i := 19) rfl (fun K hK => ?_)
                try simp only [List.getElem_toArray, List.getElem_cons_zero, List.getElem_cons_succ]
                go_simp
                go_at_call 31
                (with_reducible refine (bt _ hS0).mono ?_)
                rintro e w8 ⟨vb, rfl, hob, x8⟩
                obtain ⟨ab, cb, rfl⟩ := own_shape hob
                obtain ⟨obb, hbs, _⟩ := Sl.of_own hob
                have hbs : Bs w8 (.slice ab M.length cb) obb M := hbs
                dsimp only
                have hS1 := hS0.trans x8
                refine hK.out _ _ (fun _ => hS1) ?_; clear hK K
                try simp only [Act.put, List.getElem_toArray, List.getElem_cons_zero, List.getElem_cons_succ, List.setIfInBounds_toArray, List.set_cons_zero, List.set_cons_succ]
                clear hS0 x8
                have hS0 := hS1; clear hS1
                refine HeldBut.one (i := 20) (by kernel_rfl) ?_
                refine HeldBut.step (i := 20) rfl (fun K hK => ?_)
                try simp only [List.getElem_toArray, List.getElem_cons_zero, List.getElem_cons_succ]
                go_simp
                go_at_call 30
                (with_reducible refine (ot0 _ hS0 _ _ _ hbs).mono ?_)
                rintro e w9 ⟨rfl, x9⟩
                dsimp only
                have hS1 := hS0.trans x9
                refine hK.out _ _ (fun _ => hS1) ?_; clear hK K
                try simp only [Act.put, List.getElem_toArray, List.getElem_cons_zero, List.getElem_cons_succ, List.setIfInBounds_toArray, List.set_cons_zero, List.set_cons_succ]
                clear hS0 x9
                have hS0 := hS1; clear hS1
                refine HeldBut.take (i := 22) (v := ?_) rfl (by kernel_rfl) (by kernel_rfl) (by kernel_rfl) (by kernel_rfl) (fun _ _ _ h => h) (Or.inl ⟨by kernel_rfl, ?_⟩) hS0 ?_; rotate_left 1; (focus (intro u hu; (try dsimp only at hu); clear hu; go_simp; try with_reducible rfl))
                try simp only [Act.put, List.getElem_toArray, List.getElem_cons_zero, List.getElem_cons_succ, List.setIfInBounds_toArray, List.set_cons_zero, List.set_cons_succ]
                refine HeldBut.take (i := 23) (v := ?_) rfl (by kernel_rfl) (by kernel_rfl) (by kernel_rfl) (by kernel_rfl) (fun _ _ _ h => h) (Or.inl ⟨by kernel_rfl, ?_⟩) hS0 ?_; rotate_left 1; (focus (intro u hu; (try dsimp only at hu); clear hu; go_simp; try with_reducible rfl))
                try simp only [Act.put, List.getElem_toArray, List.getElem_cons_zero, List.getElem_cons_succ, List.setIfInBounds_toArray, List.set_cons_zero, List.set_cons_succ]
                refine HeldBut.done (by kernel_rfl) ?_ _
                have hM4 := hM3.ext hS0 (by simp)
                obtain ⟨W6, hrun, hM6, y6⟩ := hM4.put (by omega) num (by omega)
                clear hob hbs bt ot0
                go_wp2_with (fail)
                go_meet
                exact ⟨sent, _, sc, n + 1, _, rfl, by omega, by omega, own_ext (own_ext (own_ext hown.out x13 (fun _ _ => by simp)) hS0 (fun _ _ => by simp)) y6 (own_typed (own_ext (own_ext hown.out x13 (fun _ _ => by simp)) hS0 (fun _ _ => by simp)) (fun b hb cs => by simp at hb; subst hb; exact hM4.not_cells _ _ _)), hM6, by have := hts'.out; subst this; exact hIxH.out, hS, (fun h => by have := HK.out; omega), ((x13.trans hS0).mono (by simp)).trans (y6.mono (fun q _ h => by simp at h ⊢; exact .inl h))⟩
              · rw [if_pos rfl] at hpd
                have ot0 := fun w' (x : Ext [] U13 w') b cb ob' hb => (ot w' x b cb ob' hb).mono (R' := fun e w'' => e = .returned (.int .i64 1) ∧ Ext [] w' w'') (by rintro e w'' ⟨rfl, h⟩; exact ⟨by rw [hpd]; rfl, h⟩)
                clear ot hpd
                go_upto_region 29 with (fail)
                have hS0 : Ext [] U13 U13.drew := (Ext.refl [] U13).drew
                refine region_but (fun u => Ext [] U13 u) [] 24 rfl (by kernel_rfl) ?_
                generalize U13.drew = D0 at *
                refine HeldBut.take (i := 0) (v := ?_) rfl (by kernel_rfl) (by kernel_rfl) (by kernel_rfl) (by kernel_rfl) (fun _ _ _ h => h) (Or.inl ⟨by kernel_rfl, ?_⟩) hS0 ?_; rotate_left 1; (focus (intro u hu; (try dsimp only at hu); have p0 := cells_ext hu p0; have p1 := cells_ext hu p1; have p2 := cells_ext hu p2; have p3 := cells_ext hu p3; have p4 := cells_ext hu p4; have p5 := cells_ext hu p5; have p6 := cells_ext hu p6; have p7 := cells_ext hu p7; have t4 := cells_ext hu t4; have t5 := cells_ext hu t5; have t6 := cells_ext hu t6; clear hu; go_simp; try with_reducible rfl))
                try simp only [Act.put, List.getElem_toArray, List.getElem_cons_zero, List.getElem_cons_succ, List.setIfInBounds_toArray, List.set_cons_zero, List.set_cons_succ]
                refine HeldBut.take (i := 1) (v := ?_) rfl (by kernel_rfl) (by kernel_rfl) (by kernel_rfl) (by kernel_rfl) (fun _ _ _ h => h) (Or.inl ⟨by kernel_rfl, ?_⟩) hS0 ?_; rotate_left 1; (focus (intro u hu; (try dsimp only at hu); have p0 := cells_ext hu p0; have p1 := cells_ext hu p1; have p2 := cells_ext hu p2; have p3 := cells_ext hu p3; have p4 := cells_ext hu p4; have p5 := cells_ext hu p5; have p6 := cells_ext hu p6; have p7 := cells_ext hu p7; have t4 := cells_ext hu t4; have t5 := cells_ext hu t5; have t6 := cells_ext hu t6; clear hu; go_simp; try with_reducible rfl))
                try simp only [Act.put, List.getElem_toArray, List.getElem_cons_zero, List.getElem_cons_succ, List.setIfInBounds_toArray, List.set_cons_zero, List.set_cons_succ]
                refine HeldBut.take (i := 2) (v := ?_) rfl (by kernel_rfl) (by kernel_rfl) (by kernel_rfl) (by kernel_rfl) (fun _ _ _ h => h) (Or.inl ⟨by kernel_rfl, ?_⟩) hS0 ?_; rotate_left 1; (focus (intro u hu; (try dsimp only at hu); have p0 := cells_ext hu p0; have p1 := cells_ext hu p1; have p2 := cells_ext hu p2; have p3 := cells_ext hu p3; have p4 := cells_ext hu p4; have p5 := cells_ext hu p5; have p6 := cells_ext hu p6; have p7 := cells_ext hu p7; have t4 := cells_ext hu t4; have t5 := cells_ext hu t5; have t6 := cells_ext hu t6; clear hu; go_simp; try with_reducible rfl))
                try simp only [Act.put, List.getElem_toArray, List.getElem_cons_zero, List.getElem_cons_succ, List.setIfInBounds_toArray, List.set_cons_zero, List.set_cons_succ]
                refine HeldBut.take (i := 3) (v := ?_) rfl (by kernel_rfl) (by kernel_rfl) (by kernel_rfl) (by kernel_rfl) (fun _ _ _ h => h) (Or.inl ⟨by kernel_rfl, ?_⟩) hS0 ?_; rotate_left 1; (focus (intro u hu; (try dsimp only at hu); have p0 := cells_ext hu p0; have p1 := cells_ext hu p1; have p2 := cells_ext hu p2; have p3 := cells_ext hu p3; have p4 := cells_ext hu p4; have p5 := cells_ext hu p5; have p6 := cells_ext hu p6; have p7 := cells_ext hu p7; have t4 := cells_ext hu t4; have t5 := cells_ext hu t5; have t6 := cells_ext hu t6; clear hu; go_simp; try with_reducible rfl))
                try simp only [Act.put, List.getElem_toArray, List.getElem_cons_zero, List.getElem_cons_succ, List.setIfInBounds_toArray, List.set_cons_zero, List.set_cons_succ]
                refine HeldBut.take (i := 4) (v := ?_) rfl (by kernel_rfl) (by kernel_rfl) (by kernel_rfl) (by kernel_rfl) (fun _ _ _ h => h) (Or.inl ⟨by kernel_rfl, ?_⟩) hS0 ?_; rotate_left 1; (focus (intro u hu; (try dsimp only at hu); have p0 := cells_ext hu p0; have p1 := cells_ext hu p1; have p2 := cells_ext hu p2; have p3 := cells_ext hu p3; have p4 := cells_ext hu p4; have p5 := cells_ext hu p5; have p6 := cells_ext hu p6; have p7 := cells_ext hu p7; have t4 := cells_ext hu t4; have t5 := cells_ext hu t5; have t6 := cells_ext hu t6; clear hu; go_simp; try with_reducible rfl))
                try simp only [Act.put, List.getElem_toArray, List.getElem_cons_zero, List.getElem_cons_succ, List.setIfInBounds_toArray, List.set_cons_zero, List.set_cons_succ]
                refine HeldBut.take (i := 5) (v := ?_) rfl (by kernel_rfl) (by kernel_rfl) (by kernel_rfl) (by kernel_rfl) (fun _ _ _ h => h) (Or.inl ⟨by kernel_rfl, ?_⟩) hS0 ?_; rotate_left 1; (focus (intro u hu; (try dsimp only at hu); have p0 := cells_ext hu p0; have p1 := cells_ext hu p1; have p2 := cells_ext hu p2; have p3 := cells_ext hu p3; have p4 := cells_ext hu p4; have p5 := cells_ext hu p5; have p6 := cells_ext hu p6; have p7 := cells_ext hu p7; have t4 := cells_ext hu t4; have t5 := cells_ext hu t5; have t6 := cells_ext hu t6; clear hu; go_simp; try with_reducible rfl))
                try simp only [Act.put, List.getElem_toArray, List.getElem_cons_zero, List.getElem_cons_succ, List.setIfInBounds_toArray, List.set_cons_zero, List.set_cons_succ]
                refine HeldBut.take (i := 6) (v := ?_) rfl (by kernel_rfl) (by kernel_rfl) (by kernel_rfl) (by kernel_rfl) (fun _ _ _ h => h) (Or.inl ⟨by kernel_rfl, ?_⟩) hS0 ?_; rotate_left 1; (focus (intro u hu; (try dsimp only at hu); have p0 := cells_ext hu p0; have p1 := cells_ext hu p1; have p2 := cells_ext hu p2; have p3 := cells_ext hu p3; have p4 := cells_ext hu p4; have p5 := cells_ext hu p5; have p6 := cells_ext hu p6; have p7 := cells_ext hu p7; have t4 := cells_ext hu t4; have t5 := cells_ext hu t5; have t6 := cells_ext hu t6; clear hu; go_simp; try with_reducible rfl))
                try simp only [Act.put, List.getElem_toArray, List.getElem_cons_zero, List.getElem_cons_succ, List.setIfInBounds_toArray, List.set_cons_zero, List.set_cons_succ]
                refine HeldBut.take (i := 7) (v := ?_) rfl (by kernel_rfl) (by kernel_rfl) (by kernel_rfl) (by kernel_rfl) (fun _ _ _ h => h) (Or.inl ⟨by kernel_rfl, ?_⟩) hS0 ?_; rotate_left 1; (focus (intro u hu; (try dsimp only at hu); have p0 := cells_ext hu p0; have p1 := cells_ext hu p1; have p2 := cells_ext hu p2; have p3 := cells_ext hu p3; have p4 := cells_ext hu p4; have p5 := cells_ext hu p5; have p6 := cells_ext hu p6; have p7 := cells_ext hu p7; have t4 := cells_ext hu t4; have t5 := cells_ext hu t5; have t6 := cells_ext hu t6; clear hu; go_simp; try with_reducible rfl))
                try simp only [Act.put, List.getElem_toArray, List.getElem_cons_zero, List.getElem_cons_succ, List.setIfInBounds_toArray, List.set_cons_zero, List.set_cons_succ]
                refine HeldBut.take (i := 8) (v := ?_) rfl (by kernel_rfl) (by kernel_rfl) (by kernel_rfl) (by kernel_rfl) (fun _ _ _ h => h) (Or.inl ⟨by kernel_rfl, ?_⟩) hS0 ?_; rotate_left 1; (focus (intro u hu; (try dsimp only at hu); have p0 := cells_ext hu p0; have p1 := cells_ext hu p1; have p2 := cells_ext hu p2; have p3 := cells_ext hu p3; have p4 := cells_ext hu p4; have p5 := cells_ext hu p5; have p6 := cells_ext hu p6; have p7 := cells_ext hu p7; have t4 := cells_ext hu t4; have t5 := cells_ext hu t5; have t6 := cells_ext hu t6; clear hu; go_simp; try with_reducible rfl))
                try simp only [Act.put, List.getElem_toArray, List.getElem_cons_zero, List.getElem_cons_succ, List.setIfInBounds_toArray, List.set_cons_zero, List.set_cons_succ]
                refine HeldBut.take (i := 9) (v := ?_) rfl (by kernel_rfl) (by kernel_rfl) (by kernel_rfl) (by kernel_rfl) (fun _ _ _ h => h) (Or.inl ⟨by kernel_rfl, ?_⟩) hS0 ?_; rotate_left 1; (focus (intro u hu; (try dsimp only at hu); have p0 := cells_ext hu p0; have p1 := cells_ext hu p1; have p2 := cells_ext hu p2; have p3 := cells_ext hu p3; have p4 := cells_ext hu p4; have p5 := cells_ext hu p5; have p6 := cells_ext hu p6; have p7 := cells_ext hu p7; have t4 := cells_ext hu t4; have t5 := cells_ext hu t5; have t6 := cells_ext hu t6; clear hu; go_simp; try with_reducible rfl))
                try simp only [Act.put, List.getElem_toArray, List.getElem_cons_zero, List.getElem_cons_succ, List.setIfInBounds_toArray, List.set_cons_zero, List.set_cons_succ]
                refine HeldBut.take (i := 10) (v := ?_) rfl (by kernel_rfl) (by kernel_rfl) (by kernel_rfl) (by kernel_rfl) (fun _ _ _ h => h) (Or.inl ⟨by kernel_rfl, ?_⟩) hS0 ?_; rotate_left 1; (focus (intro u hu; (try dsimp only at hu); have p0 := cells_ext hu p0; have p1 := cells_ext hu p1; have p2 := cells_ext hu p2; have p3 := cells_ext hu p3; have p4 := cells_ext hu p4; have p5 := cells_ext hu p5; have p6 := cells_ext hu p6; have p7 := cells_ext hu p7; have t4 := cells_ext hu t4; have t5 := cells_ext hu t5; have t6 := cells_ext hu t6; clear hu; go_simp; try with_reducible rfl))
                try simp only [Act.put, List.getElem_toArray, List.getElem_cons_zero, List.getElem_cons_succ, List.setIfInBounds_toArray, List.set_cons_zero, List.set_cons_succ]
                refine HeldBut.take (i := 11) (v := ?_) rfl (by kernel_rfl) (by kernel_rfl) (by kernel_rfl) (by kernel_rfl) (fun _ _ _ h => h) (Or.inl ⟨by kernel_rfl, ?_⟩) hS0 ?_; rotate_left 1; (focus (intro u hu; (try dsimp only at hu); have p0 := cells_ext hu p0; have p1 := cells_ext hu p1; have p2 := cells_ext hu p2; have p3 := cells_ext hu p3; have p4 := cells_ext hu p4; have p5 := cells_ext hu p5; have p6 := cells_ext hu p6; have p7 := cells_ext hu p7; have t4 := cells_ext hu t4; have t5 := cells_ext hu t5; have t6 := cells_ext hu t6; clear hu; go_simp; try with_reducible rfl))
                try simp only [Act.put, List.getElem_toArray, List.getElem_cons_zero, List.getElem_cons_succ, List.setIfInBounds_toArray, List.set_cons_zero, List.set_cons_succ]
                refine HeldBut.take (i := 12) (v := ?_) rfl (by kernel_rfl) (by kernel_rfl) (by kernel_rfl) (by kernel_rfl) (fun _ _ _ h => h) (Or.inl ⟨by kernel_rfl, ?_⟩) hS0 ?_; rotate_left 1; (focus (intro u hu; (try dsimp only at hu); have p0 := cells_ext hu p0; have p1 := cells_ext hu p1; have p2 := cells_ext hu p2; have p3 := cells_ext hu p3; have p4 := cells_ext hu p4; have p5 := cells_ext hu p5; have p6 := cells_ext hu p6; have p7 := cells_ext hu p7; have t4 := cells_ext hu t4; have t5 := cells_ext hu t5; have t6 := cells_ext hu t6; clear hu; go_simp; try with_reducible rfl))
                try simp only [Act.put, List.getElem_toArray, List.getElem_cons_zero, List.getElem_cons_succ, List.setIfInBounds_toArray, List.set_cons_zero, List.set_cons_succ]
                refine HeldBut.take (i := 13) (v := ?_) rfl (by kernel_rfl) (by kernel_rfl) (by kernel_rfl) (by kernel_rfl) (fun _ _ _ h => h) (Or.inl ⟨by kernel_rfl, ?_⟩) hS0 ?_; rotate_left 1; (focus (intro u hu; (try dsimp only at hu); have p0 := cells_ext hu p0; have p1 := cells_ext hu p1; have p2 := cells_ext hu p2; have p3 := cells_ext hu p3; have p4 := cells_ext hu p4; have p5 := cells_ext hu p5; have p6 := cells_ext hu p6; have p7 := cells_ext hu p7; have t4 := cells_ext hu t4; have t5 := cells_ext hu t5; have t6 := cells_ext hu t6; clear hu; go_simp; try with_reducible rfl))
                try simp only [Act.put, List.getElem_toArray, List.getElem_cons_zero, List.getElem_cons_succ, List.setIfInBounds_toArray, List.set_cons_zero, List.set_cons_succ]
                refine HeldBut.take (i := 14) (v := ?_) rfl (by kernel_rfl) (by kernel_rfl) (by kernel_rfl) (by kernel_rfl) (fun _ _ _ h => h) (Or.inl ⟨by kernel_rfl, ?_⟩) hS0 ?_; rotate_left 1; (focus (intro u hu; (try dsimp only at hu); have p0 := cells_ext hu p0; have p1 := cells_ext hu p1; have p2 := cells_ext hu p2; have p3 := cells_ext hu p3; have p4 := cells_ext hu p4; have p5 := cells_ext hu p5; have p6 := cells_ext hu p6; have p7 := cells_ext hu p7; have t4 := cells_ext hu t4; have t5 := cells_ext hu t5; have t6 := cells_ext hu t6; clear hu; go_simp; try with_reducible rfl))
                try simp only [Act.put, List.getElem_toArray, List.getElem_cons_zero, List.getElem_cons_succ, List.setIfInBounds_toArray, List.set_cons_zero, List.set_cons_succ]
                refine HeldBut.take (i := 15) (v := ?_) rfl (by kernel_rfl) (by kernel_rfl) (by kernel_rfl) (by kernel_rfl) (fun _ _ _ h => h) (Or.inl ⟨by kernel_rfl, ?_⟩) hS0 ?_; rotate_left 1; (focus (intro u hu; (try dsimp only at hu); have p0 := cells_ext hu p0; have p1 := cells_ext hu p1; have p2 := cells_ext hu p2; have p3 := cells_ext hu p3; have p4 := cells_ext hu p4; have p5 := cells_ext hu p5; have p6 := cells_ext hu p6; have p7 := cells_ext hu p7; have t4 := cells_ext hu t4; have t5 := cells_ext hu t5; have t6 := cells_ext hu t6; clear hu; go_simp; try with_reducible rfl))
                try simp only [Act.put, List.getElem_toArray, List.getElem_cons_zero, List.getElem_cons_succ, List.setIfInBounds_toArray, List.set_cons_zero, List.set_cons_succ]
                refine HeldBut.take (i := 16) (v := ?_) rfl (by kernel_rfl) (by kernel_rfl) (by kernel_rfl) (by kernel_rfl) (fun _ _ _ h => h) (Or.inl ⟨by kernel_rfl, ?_⟩) hS0 ?_; rotate_left 1; (focus (intro u hu; (try dsimp only at hu); have p0 := cells_ext hu p0; have p1 := cells_ext hu p1; have p2 := cells_ext hu p2; have p3 := cells_ext hu p3; have p4 := cells_ext hu p4; have p5 := cells_ext hu p5; have p6 := cells_ext hu p6; have p7 := cells_ext hu p7; have t4 := cells_ext hu t4; have t5 := cells_ext hu t5; have t6 := cells_ext hu t6; clear hu; go_simp; try with_reducible rfl))
                try simp only [Act.put, List.getElem_toArray, List.getElem_cons_zero, List.getElem_cons_succ, List.setIfInBounds_toArray, List.set_cons_zero, List.set_cons_succ]
                refine HeldBut.take (i := 17) (v := ?_) rfl (by kernel_rfl) (by kernel_rfl) (by kernel_rfl) (by kernel_rfl) (fun _ _ _ h => h) (Or.inl ⟨by kernel_rfl, ?_⟩) hS0 ?_; rotate_left 1; (focus (intro u hu; (try dsimp only at hu); have p0 := cells_ext hu p0; have p1 := cells_ext hu p1; have p2 := cells_ext hu p2; have p3 := cells_ext hu p3; have p4 := cells_ext hu p4; have p5 := cells_ext hu p5; have p6 := cells_ext hu p6; have p7 := cells_ext hu p7; have t4 := cells_ext hu t4; have t5 := cells_ext hu t5; have t6 := cells_ext hu t6; clear hu; go_simp; try with_reducible rfl))
                try simp only [Act.put, List.getElem_toArray, List.getElem_cons_zero, List.getElem_cons_succ, List.setIfInBounds_toArray, List.set_cons_zero, List.set_cons_succ]
                refine HeldBut.take (i := 18) (v := ?_) rfl (by kernel_rfl) (by kernel_rfl) (by kernel_rfl) (by kernel_rfl) (fun _ _ _ h => h) (Or.inl ⟨by kernel_rfl, ?_⟩) hS0 ?_; rotate_left 1; (focus (intro u hu; (try dsimp only at hu); have p0 := cells_ext hu p0; have p1 := cells_ext hu p1; have p2 := cells_ext hu p2; have p3 := cells_ext hu p3; have p4 := cells_ext hu p4; have p5 := cells_ext hu p5; have p6 := cells_ext hu p6; have p7 := cells_ext hu p7; have t4 := cells_ext hu t4; have t5 := cells_ext hu t5; have t6 := cells_ext hu t6; clear hu; go_simp; try with_reducible rfl))
                try simp only [Act.put, List.getElem_toArray, List.getElem_cons_zero, List.getElem_cons_succ, List.setIfInBounds_toArray, List.set_cons_zero, List.set_cons_succ]
                refine HeldBut.take (i := 21) (v := ?_) rfl (by kernel_rfl) (by kernel_rfl) (by kernel_rfl) (by kernel_rfl) (fun _ _ _ h => h) (Or.inl ⟨by kernel_rfl, ?_⟩) hS0 ?_; rotate_left 1; (focus (intro u hu; (try dsimp only at hu); have p0 := cells_ext hu p0; have p1 := cells_ext hu p1; have p2 := cells_ext hu p2; have p3 := cells_ext hu p3; have p4 := cells_ext hu p4; have p5 := cells_ext hu p5; have p6 := cells_ext hu p6; have p7 := cells_ext hu p7; have t4 := cells_ext hu t4; have t5 := cells_ext hu t5; have t6 := cells_ext hu t6; clear hu; go_simp; try with_reducible rfl))
                try simp only [Act.put, List.getElem_toArray, List.getElem_cons_zero, List.getElem_cons_succ, List.setIfInBounds_toArray, List.set_cons_zero, List.set_cons_succ]
                clear p0 p1 p2 p3 p4 p5 p6 p7 t0 t1 t2 t3 t4 t5 t6 t7 t8 t9
                refine HeldBut.one (i := 19) (by kernel_rfl) ?_
                refine HeldBut.step (i := 19) rfl (fun K hK => ?_)
                try simp only [List.getElem_toArray, List.getElem_cons_zero, List.getElem_cons_succ]
                go_simp
                go_at_call 31
                (with_reducible refine (bt _ hS0).mono ?_)
                rintro e w8 ⟨vb, rfl, hob, x8⟩
                obtain ⟨ab, cb, rfl⟩ := own_shape hob
                obtain ⟨obb, hbs, _⟩ := Sl.of_own hob
                have hbs : Bs w8 (.slice ab M.length cb) obb M := hbs
                dsimp only
                have hS1 := hS0.trans x8
                refine hK.out _ _ (fun _ => hS1) ?_; clear hK K
                try simp only [Act.put, List.getElem_toArray, List.getElem_cons_zero, List.getElem_cons_succ, List.setIfInBounds_toArray, List.set_cons_zero, List.set_cons_succ]
                clear hS0 x8
                have hS0 := hS1; clear hS1
                refine HeldBut.one (i := 20) (by kernel_rfl) ?_
                refine HeldBut.step (i := 20) rfl (fun K hK => ?_)
                try simp only [List.getElem_toArray, List.getElem_cons_zero, List.getElem_cons_succ]
                go_simp
                go_at_call 30
                (with_reducible refine (ot0 _ hS0 _ _ _ hbs).mono ?_)
                rintro e w9 ⟨rfl, x9⟩
                dsimp only
                have hS1 := hS0.trans x9
                refine hK.out _ _ (fun _ => hS1) ?_; clear hK K
                try simp only [Act.put, List.getElem_toArray, List.getElem_cons_zero, List.getElem_cons_succ, List.setIfInBounds_toArray, List.set_cons_zero, List.set_cons_succ]
                clear hS0 x9
                have hS0 := hS1; clear hS1
                refine HeldBut.take (i := 22) (v := ?_) rfl (by kernel_rfl) (by kernel_rfl) (by kernel_rfl) (by kernel_rfl) (fun _ _ _ h => h) (Or.inl ⟨by kernel_rfl, ?_⟩) hS0 ?_; rotate_left 1; (focus (intro u hu; (try dsimp only at hu); clear hu; go_simp; try with_reducible rfl))
                try simp only [Act.put, List.getElem_toArray, List.getElem_cons_zero, List.getElem_cons_succ, List.setIfInBounds_toArray, List.set_cons_zero, List.set_cons_succ]
                refine HeldBut.take (i := 23) (v := ?_) rfl (by kernel_rfl) (by kernel_rfl) (by kernel_rfl) (by kernel_rfl) (fun _ _ _ h => h) (Or.inl ⟨by kernel_rfl, ?_⟩) hS0 ?_; rotate_left 1; (focus (intro u hu; (try dsimp only at hu); clear hu; go_simp; try with_reducible rfl))
                try simp only [Act.put, List.getElem_toArray, List.getElem_cons_zero, List.getElem_cons_succ, List.setIfInBounds_toArray, List.set_cons_zero, List.set_cons_succ]
                refine HeldBut.done (by kernel_rfl) ?_ _
                have hM4 := hM3.ext hS0 (by simp)
                obtain ⟨W6, hrun, hM6, y6⟩ := hM4.put (by omega) num (by omega)
                clear hob hbs bt ot0
                go_wp2_with (fail)
                go_meet
                exact ⟨sent, _, sc, n + 1, _, rfl, by omega, by omega, own_ext (own_ext (own_ext hown.out x13 (fun _ _ => by simp)) hS0 (fun _ _ => by simp)) y6 (own_typed (own_ext (own_ext hown.out x13 (fun _ _ => by simp)) hS0 (fun _ _ => by simp)) (fun b hb cs => by simp at hb; subst hb; exact hM4.not_cells _ _ _)), hM6, by have := hts'.out; subst this; exact hIxH.out, hS, (fun h => by have := HK.out; omega), ((x13.trans hS0).mono (by simp)).trans (y6.mono (fun q _ h => by simp at h ⊢; exact .inl h))⟩
            · have q0 : ((K : Int) == 0) = false := by simp; omega
              have q1 : ((K : Int) == 1) = false := by simp; omega
              have q2 : ((K : Int) == 2) = false := by simp; omega
              have q6 : ((K : Int) == 6) = false := by simp; omega
              have q3 : ((K : Int) == 3) = false := by simp; omega
              have q4 : ((K : Int) == 4) = true := by simp; omega
              have HC := Lib.hid (c4.out (by omega))
              have HK := Lib.hid hk
              obtain ⟨W6, hrun, hM6, y6⟩ := hM.put (by omega) num (by have := HC.out.2.1; omega)
              clear hk c0 c3 c4 c5 c6 c7 hK8
              go_wp2_with (fail)
              go_meet
              exact ⟨sent, sa, sc, n + 1, _, rfl, by omega, by omega, own_ext hown.out y6 (own_typed hown.out (fun b hb cs => by simp at hb; subst hb; exact hM.not_cells _ _ _)), hM6, by have := HC.out.2.2.1; subst this; exact HC.out.2.2.2, hS, (fun h => by have := HK.out; omega), y6.mono (fun q _ h => by simp at h ⊢; exact .inl h)⟩
            · as_aux_lemma =>
              have q0 : ((K : Int) == 0) = false := by simp; omega
              have q1 : ((K : Int) == 1) = false := by simp; omega
              have q2 : ((K : Int) == 2) = false := by simp; omega
              have q6 : ((K : Int) == 6) = false := by simp; omega
              have q3 : ((K : Int) == 3) = false := by simp; omega
              have q4 : ((K : Int) == 4) = false := by simp; omega
              have q5 : ((K : Int) == 5) = true := by simp; omega
              have HC := Lib.hid (c5.out (by omega))
              have HK := Lib.hid hk
              clear hk c0 c3 c4 c5 c6 c7 hK8
              go_wp2_with (fail)
              go_loopw [131] (fun i wr => ∃ (j n' : Nat) (ov' : Nat → Bool), j ≤ sent.length ∧ i = .int .i64 (j : Int) ∧ n' ≤ n + j ∧ OM wr (nb + 1) n' ov' ∧ Hid (∀ q, ov' q = (onWay (sent.map OX.o) o.fr o.tt j q || ov q)) ∧ Ext [nb + 1] w6 wr) (fun i _ => sent.length - (intOf i).toNat)
              case atStart => exact ⟨0, n, ov, by omega, rfl, by omega, hM, (fun q => by unfold onWay; cases h1 : decide (1 ≤ q) <;> simp <;> (intro h2; subst h2; simp at h1)), Ext.refl _ _⟩
              case round =>
                obtain ⟨j, n', ov', hj, rfl, hn', hM', hov, xr⟩ := hrel
                replace hown := Lib.hid (own_ext hown.out xr (own_typed hown.out (fun b hb cs => by simp at hb; subst hb; exact hM.not_cells _ _ _)))
                replace b7 := b7.ext xr (by simp; intro e; subst e; exact hM.not_cells _ _ _ b7)
                by_cases hjl : j < sent.length
                · have hy : sent[j]? = some sent[j] := List.getElem?_eq_getElem hjl
                  generalize sent[j] = y at *
                  have hj0 : (j : Int) < (sent.length : Int) := by omega
                  have hcv : IntKind.u64.wrap (j : Int) = (j : Int) := by rw [IntKind.wrap_u64]; omega
                  have hsb : IntKind.u64.wrap ((j : Int) + 1) = (((j + 1 : Nat)) : Int) := by rw [IntKind.wrap_u64]; omega
                  obtain ⟨obS, hSS, -⟩ := Sl.of_own hown.out
                  obtain ⟨oS, haS, hcS⟩ := Sl.flat_cells wideO hSS j y hy
                  have p0 : wr.cell? ⟨obS, oS + j * 8, none⟩ = some (.int .i64 y.o.kind) := hcS 0 _ rfl
                  have p1 : wr.cell? ⟨obS, oS + j * 8 + 1, none⟩ = some (.int .i64 y.o.fr) := hcS 1 _ rfl
                  have p2 : wr.cell? ⟨obS, oS + j * 8 + 2, none⟩ = some (.int .i64 y.o.tt) := hcS 2 _ rfl
                  have p3 : wr.cell? ⟨obS, oS + j * 8 + 3, none⟩ = some (.int .i64 y.o.at_) := hcS 3 _ rfl
                  have p4 : wr.cell? ⟨obS, oS + j * 8 + 4, none⟩ = some (.int .i64 y.o.place) := hcS 4 _ rfl
                  have p5 : wr.cell? ⟨obS, oS + j * 8 + 5, none⟩ = some (.bool y.o.other) := hcS 5 _ rfl
                  have p6 : wr.cell? ⟨obS, oS + j * 8 + 6, none⟩ = some (.int .u8 (y.o.by_.toNat : Int)) := hcS 6 _ rfl
                  have p7 : wr.cell? ⟨obS, oS + j * 8 + 7, none⟩ = some (.slice y.a y.o.bs.length y.c) := hcS 7 _ rfl
                  have hst : Hid (∀ q, onWay (sent.map OX.o) o.fr o.tt (j + 1) q = (((q == j + 1) && (y.o.fr == o.fr && y.o.tt == o.tt)) || onWay (sent.map OX.o) o.fr o.tt j q)) := fun q => onWay_succ (by rw [List.getElem?_map, hy]; rfl)
                  have HA := Lib.hid haS
                  rw [haS] at hown
                  obtain ⟨⟨yk, yf, yt, ya, yp, yo, yb, ybs⟩, yaa, yc, yob⟩ := y
                  dsimp only at p0 p1 p2 p3 p4 p5 p6 p7 hst
                  obtain ⟨k0, k1, k2, k3, k4, k5, k6, k7⟩ := b7.c8
                  subst haS
                  clear hcS hSS hy HA
                  have x13 := (Ext.refl [] wr).alloc (.cells #[.int .i64 yk, .int .i64 yf, .int .i64 yt, .int .i64 ya, .int .i64 yp, .bool yo, .int .u8 (yb.toNat : Int), .slice yaa ybs.length yc] 31)
                  have b13 := Blk.new wr [.int .i64 yk, .int .i64 yf, .int .i64 yt, .int .i64 ya, .int .i64 yp, .bool yo, .int .u8 (yb.toNat : Int), .slice yaa ybs.length yc] 31
                  have hM3 := hM'.ext x13 (by simp)
                  replace b7 := b7.ext x13 (by simp)
                  have xr3 := xr.trans (x13.mono (by simp))
                  go_upto_region 38 with (fail)
                  generalize wr.alloc (.cells #[.int .i64 yk, .int .i64 yf, .int .i64 yt, .int .i64 ya, .int .i64 yp, .bool yo, .int .u8 (yb.toNat : Int), .slice yaa ybs.length yc] 31) = U13 at *
                  generalize wr.heap.size = ub at *
                  clear p0 p1 p2 p3 p4 p5 p6 p7 k0 k1 k2 k3 k4 k5 k6 k7 x13
                  obtain ⟨p0, p1, p2, p3, p4, p5, p6, p7⟩ := b13.c8
                  obtain ⟨k0, k1, k2, k3, k4, k5, k6, k7⟩ := b7.c8
                  obtain ⟨W6, hrun, hM6, y6⟩ := hM3.put (by omega) (j + 1) (by omega)
                  rw [show ((j + 1 : Nat) : Int) = (j : Int) + 1 by omega] at hrun
                  cases e1 : (yf == o.fr)
                  · have HE := Lib.hid e1
                    clear hrun hM6 y6
                    go_wp2_with (fail)
                    go_roundw
                    case rel => exact ⟨j + 1, n', ov', by omega, by go_num, by omega, hM3, (fun q => by rw [hst.out, hov.out, HE.out]; simp), xr3⟩
                    case measure => simp [intOf]; omega
                  · cases e2 : (yt == o.tt)
                    · have HE := Lib.hid (And.intro e1 e2)
                      clear hrun hM6 y6
                      go_wp2_with (fail)
                      go_roundw
                      case rel => exact ⟨j + 1, n', ov', by omega, by go_num, by omega, hM3, (fun q => by rw [hst.out, hov.out, HE.out.1, HE.out.2]; simp), xr3⟩
                      case measure => simp [intOf]; omega
                    · have HE := Lib.hid (And.intro e1 e2)
                      go_wp2_with (fail)
                      go_roundw
                      case rel => exact ⟨j + 1, n' + 1, _, by omega, by go_num, by omega, hM6, (fun q => by rw [hst.out, HE.out.1, HE.out.2]; show (q == j + 1 || ov' q) = _; rw [hov.out]; simp [Bool.or_assoc]), xr3.trans y6⟩
                      case measure => simp [intOf]; omega
                · obtain rfl : j = sent.length := by omega
                  go_wp2_with (fail)
                  go_meet
                  exact ⟨sent, sa, sc, n', ov', rfl, by omega, by omega, hown, hM', by have := HC.out.1; subst this; have h2 := HC.out.2; rw [List.length_map] at h2; have : ov' = fun k => onWay (sent.map OX.o) o.fr o.tt sent.length k || ov k := funext hov.out; rw [this]; exact h2, hS, (fun h => by have := HK.out; omega), xr.mono (fun q _ h => by simp at h ⊢; exact .inl h)⟩
            · have q0 : ((K : Int) == 0) = false := by simp; omega
              have q1 : ((K : Int) == 1) = false := by simp; omega
              have q2 : ((K : Int) == 2) = false := by simp; omega
              have q6 : ((K : Int) == 6) = true := by simp; omega
              obtain ⟨hn1, hn2, hn3, hn4, x, hx, hIx⟩ := c6.out (by omega)
              rw [List.getElem?_map, Option.map_eq_some_iff] at hx
              obtain ⟨y, hy, rfl⟩ := hx
              have HC := Lib.hid (And.intro hn3 (And.intro hn4 hIx))
              have HK := Lib.hid hk
              have hyS := hS.out y (List.mem_of_getElem? hy)
              obtain ⟨j, hj⟩ : ∃ j, num - 1 = j := ⟨_, rfl⟩
              rw [hj] at hy
              have HJ := Lib.hid hj
              have g1 : decide ((num : Int) < 1) = false := by simp; omega
              have g2 : decide ((num : Int) > (sent.length : Int)) = false := by simp; omega
              have g2' : ¬ ((sent.length : Int) < (num : Int)) := by omega
              have g2'' : decide ((sent.length : Int) < (num : Int)) = false := by simp; omega
              have hcv : IntKind.u64.wrap (sent.length : Int) = (sent.length : Int) := by rw [IntKind.wrap_u64]; omega
              have hsb : IntKind.u64.wrap ((num : Int) - 1) = (j : Int) := by rw [IntKind.wrap_u64]; omega
              have hj0 : (j : Int) < (sent.length : Int) := by omega
              obtain ⟨obS, hSS, -⟩ := Sl.of_own hown.out
              obtain ⟨oS, haS, hcS⟩ := Sl.flat_cells wideO hSS j y hy
              have p0 : w6.cell? ⟨obS, oS + j * 8, none⟩ = some (.int .i64 y.o.kind) := hcS 0 _ rfl
              have p1 : w6.cell? ⟨obS, oS + j * 8 + 1, none⟩ = some (.int .i64 y.o.fr) := hcS 1 _ rfl
              have p2 : w6.cell? ⟨obS, oS + j * 8 + 2, none⟩ = some (.int .i64 y.o.tt) := hcS 2 _ rfl
              have p3 : w6.cell? ⟨obS, oS + j * 8 + 3, none⟩ = some (.int .i64 y.o.at_) := hcS 3 _ rfl
              have p4 : w6.cell? ⟨obS, oS + j * 8 + 4, none⟩ = some (.int .i64 y.o.place) := hcS 4 _ rfl
              have p5 : w6.cell? ⟨obS, oS + j * 8 + 5, none⟩ = some (.bool y.o.other) := hcS 5 _ rfl
              have p6 : w6.cell? ⟨obS, oS + j * 8 + 6, none⟩ = some (.int .u8 (y.o.by_.toNat : Int)) := hcS 6 _ rfl
              have p7 : w6.cell? ⟨obS, oS + j * 8 + 7, none⟩ = some (.slice y.a y.o.bs.length y.c) := hcS 7 _ rfl
              subst haS
              obtain ⟨⟨yk, yf, yt, ya, yp, yo, yb, ybs⟩, yaa, yc, yob⟩ := y
              dsimp only at p0 p1 p2 p3 p4 p5 p6 p7 hyS
              clear hk c0 c3 c4 c5 c6 c7 hK8 hcS hSS hj hy hn1 hn2 hn3 hn4 hIx
              go_wp2_with (at_builtin; refine wpList_append_sl TOp rfl (.tmp 58) (.tmp 64) rfl rfl (own_ext hown.out ((Ext.refl [] w6).alloc (.cells #[.int .i64 yk, .int .i64 yf, .int .i64 yt, .int .i64 ya, .int .i64 yp, .bool yo, .int .u8 (yb.toNat : Int), .slice yaa ybs.length yc] 31)) (fun _ _ => by simp)) rfl (Sl.lit w6 [.int .i64 yk, .int .i64 yf, .int .i64 yt, .int .i64 ya, .int .i64 yp, .bool yo, .int .u8 (yb.toNat : Int), .slice yaa ybs.length yc] 31 8 1 rfl (by decide)) (one_op ⟨yk, yf, yt, ya, yp, yo, yb, ybs⟩ yaa yc) (by unfold maxLen; omega) (by omega) (by have := hX.size; simp; omega) ?_; intro v6 W6 r1 r2; obtain ⟨a6, c6', rfl⟩ := own_shape r1)
              go_meet
              exact sendEnd (x := ⟨⟨yk, yf, yt, ya, yp, yo, yb, ybs⟩, yaa, yc, yob⟩) hown.out hM hS hyS.1 hyS.2 rfl r1 r2 (by omega) (by have := HC.out.2.1; subst this; exact HC.out.2.2) (fun _ => by have := HC.out.1; simp; omega)
            · have q0 : ((K : Int) == 0) = false := by simp; omega
              have q1 : ((K : Int) == 1) = false := by simp; omega
              have q2 : ((K : Int) == 2) = false := by simp; omega
              have q3 : ((K : Int) == 3) = false := by simp; omega
              have q4 : ((K : Int) == 4) = false := by simp; omega
              have q5 : ((K : Int) == 5) = false := by simp; omega
              have q6 : ((K : Int) == 6) = false := by simp; omega
              have HC := Lib.hid (c7.out (by omega))
              have HK := Lib.hid hk
              clear hk c0 c3 c4 c5 c6 c7 hK8
              go_wp2_with (fail)
              go_meet
              exact ⟨sent, sa, sc, n, ov, rfl, by omega, by omega, hown, hM, by have := HC.out.1; subst this; exact HC.out.2, hS, (fun h => by have := HK.out; omega), Ext.refl _ _⟩
          case rest => as_aux_lemma =>
            clear c0 c3 c4 c5 c6 c7 hM hS hI3
            obtain ⟨sent', sa', sc', n', ov', rfl, hsl', hn', hown', hM', hI', hS', hnum, xc⟩ := hcut
            have hb3 : nb ∉ (nb + 1) :: (Value.slice sa sent.length sc).ownBlock.toList := fun m => by
              simp at m
              obtain ⟨_, _, cs, h⟩ := own_block hown.out m
              rw [b3] at h; cases h
            have hb7 : pb ∉ (nb + 1) :: (Value.slice sa sent.length sc).ownBlock.toList := fun m => by
              simp at m
              rcases m with m | m
              · subst m; exact hMb _ _ _ b7
              · have := hgb.out _ m; omega
            have hb9 : tb ∉ (nb + 1) :: (Value.slice sa sent.length sc).ownBlock.toList := fun m => by
              simp at m
              rcases m with m | m
              · subst m; exact hMb _ _ _ b9
              · obtain ⟨_, _, cs, h⟩ := own_block hown.out m
                rw [b9] at h; cases h
            replace hO4 := hO4.far xc (fun b hb cs e h => by
              simp at hb
              rcases hb with hb | hb
              · subst hb; exact absurd h (hMb _ _ _)
              · obtain ⟨_, _, cs', h'⟩ := own_block hown.out hb
                rw [h] at h'; cases h'; exact ⟨by decide, by decide⟩)
            have hXc := hX.trans' xc (fun b hb => by
              simp at hb
              rcases hb with hb | hb
              · exact .inr (by omega)
              · exact .inr (own_block hown.out hb).1)
            replace b3 := b3.ext xc hb3
            replace b7 := b7.ext xc hb7
            replace b9 := b9.ext xc hb9
            clear hb3 hb7 hb9 hown hX xc hgb hMb
            generalize wc = Wc at *
            obtain ⟨hIr, hIs⟩ : right ⟨ts, tl⟩ = true ∧ ts = sent'.length := ⟨hI'.out.hr, by have := hI'.out.hs; rwa [List.length_map] at this⟩
            subst hIs
            have hcv : IntKind.u64.wrap (sent'.length : Int) = (sent'.length : Int) := by rw [IntKind.wrap_u64]; omega
            go_upto_region 41 with (fail)
            go_cut [168] (fun z wx => z = .bool false ∧ Ext [] Wc wx)
            case first =>
              obtain ⟨k0, k1, k2, k3, k4, k5, k6, k7⟩ := b7.c8
              obtain ⟨t0, t1, t2, t3, t4, t5, t6, t7, t8, t9⟩ := b9.c10
              by_cases h3 : K < 3
              · have r0 : decide ((K : Int) < 3) = true := by simp; omega
                obtain rfl := hnum.out (.inl h3)
                have HK := Lib.hid h3
                clear h3
                go_wp2_with (go_at_call 29; (with_reducible refine (kd _).mono ?_); rintro e w7 ⟨rfl, x7⟩; replace t2 := cells_ext x7 t2)
                go_meet
                exact ⟨rfl, x7⟩
              · have r0 : decide ((K : Int) < 3) = false := by simp; omega
                by_cases h6 : K = 6
                · have r6 : ((K : Int) == 6) = true := by simp; omega
                  obtain rfl := hnum.out (.inr h6)
                  have HK := Lib.hid (And.intro h3 h6)
                  clear h3 h6
                  go_wp2_with (first
                    | (go_at_call 29; (with_reducible refine (kd Wc).mono ?_); rintro e w7 ⟨rfl, x7⟩; replace t2 := cells_ext x7 t2; replace k0 := cells_ext x7 k0; replace k1 := cells_ext x7 k1; replace k2 := cells_ext x7 k2; replace k3 := cells_ext x7 k3; replace k4 := cells_ext x7 k4; replace k5 := cells_ext x7 k5; replace k6 := cells_ext x7 k6; replace k7 := cells_ext x7 k7)
                    | (go_at_call 29; (with_reducible refine (kd _).mono ?_); rintro e w8 ⟨rfl, x8⟩; replace t2 := cells_ext x8 t2))
                  go_meet
                  exact ⟨rfl, x7.trans x8⟩
                · have r6 : ((K : Int) == 6) = false := by simp; omega
                  have HK := Lib.hid (And.intro h3 h6)
                  clear h3 h6
                  go_wp2_with (first
                    | (go_at_call 29; (with_reducible refine (kd Wc).mono ?_); rintro e w7 ⟨rfl, x7⟩; replace k0 := cells_ext x7 k0; replace k1 := cells_ext x7 k1; replace k2 := cells_ext x7 k2; replace k3 := cells_ext x7 k3; replace k4 := cells_ext x7 k4; replace k5 := cells_ext x7 k5; replace k6 := cells_ext x7 k6; replace k7 := cells_ext x7 k7)
                    | (go_at_call 29; (with_reducible refine (kd _).mono ?_); rintro e w8 ⟨rfl, x8⟩))
                  go_meet
                  exact ⟨rfl, x7.trans x8⟩
            case rest =>
              obtain ⟨rfl, x7⟩ := hcut
              replace hown' := Lib.hid (own_ext hown'.out x7 (fun _ _ => by simp))
              replace b3 := b3.ext x7 (by simp)
              replace b9 := b9.ext x7 (by simp)
              replace hM' := hM'.ext x7 (by simp)
              replace hO4 := hO4.ext x7
              replace hXc := hXc.trans x7
              clear b7 kd x7 hnum
              generalize wc = Wd at *
              obtain ⟨a3', c3', e3⟩ := hO4.shape
              simp only [Value.slice.injEq] at e3
              obtain ⟨rfl, rfl, rfl⟩ := e3
              obtain ⟨t0, t1, t2, t3, t4, t5, t6, t7, t8, t9⟩ := b9.c10
              obtain ⟨d0, d1⟩ := b3.c2
              have nf := b3.frozen
              go_upto_region 44 with (fail)
              have x8 := ((Ext.refl [nb] Wd).setCell (p := ⟨nb, 0, none⟩) (.inl (by simp)) (.int .u64 (sent'.length : Int))).setCell (p := ⟨nb, 1, none⟩) (.inl (by simp)) (.slice a3 tl.length c3)
              have b8 := (b3.set 0 (.int .u64 (sent'.length : Int))).set 1 (.slice a3 tl.length c3)
              simp only [List.set_cons_zero, List.set_cons_succ] at b8
              replace hown' := Lib.hid (own_ext hown'.out x8 (own_ne hown'.out b3 (by decide)))
              replace hM' := hM'.ext x8 (by simp)
              replace hO4 := hO4.other b3 (by decide) (by decide) x8
              replace hXc := hXc.trans' x8 (fun b hb => .inr (by simp at hb; omega))
              clear t0 t1 t2 t3 t4 t5 t6 t7 t8 t9 d0 d1 nf b3 b9 x8
              generalize (Wd.setCell ⟨nb, 0, none⟩ (.int .u64 (sent'.length : Int))).setCell ⟨nb, 1, none⟩ (.slice a3 tl.length c3) = We at *
              obtain ⟨d0, d1⟩ := b8.c2
              go_wp2_with (fail)
              have hLf : Hid (left ov' sent'.length = tl.length) := by show _ = _; have := hI'.out.left; rwa [List.length_map] at this
              go_loopw [14, 173] (fun x i wr => ∃ j : Nat, j ≤ sent'.length ∧ i = .int .i64 (j : Int) ∧ x = .int .i64 (left ov' j : Int) ∧ left ov' j ≤ j ∧ wr = We) (fun _ i _ => sent'.length - (intOf i).toNat)
              case atStart => exact ⟨0, by omega, rfl, rfl, by simp [left], rfl⟩
              case round =>
                obtain ⟨j, hj, rfl, rfl, hlj, rfl⟩ := hrel
                by_cases hjl : j < sent'.length
                · have hls := left_succ ov' j
                  have hlk := hM'.look (j + 1) (by omega)
                  rw [show ((j + 1 : Nat) : Int) = (j : Int) + 1 by omega] at hlk
                  have hcv2 : IntKind.u64.wrap (j : Int) = (j : Int) := by rw [IntKind.wrap_u64]; omega
                  have hcv3 : IntKind.u64.wrap ((j : Int) + 1) = (j : Int) + 1 := by rw [IntKind.wrap_u64]; omega
                  generalize hl1 : left ov' (j + 1) = L1 at *
                  generalize hl0 : left ov' j = L0 at *
                  have HL := Lib.hid (And.intro hl1 hls)
                  clear hl0 hl1 hls
                  cases hq : ov' (j + 1)
                  · rw [hq] at hlk
                    have HQ := Lib.hid hq
                    clear hq
                    go_wp2_with (fail)
                    go_roundw
                    case rel =>
                      have h2 := HL.out.2
                      rw [HQ.out, if_neg (by decide)] at h2
                      exact ⟨j + 1, by omega, by go_num, by rw [HL.out.1, h2]; go_num, by rw [HL.out.1]; omega, by first | rfl | trivial⟩
                    case measure => simp [intOf]; omega
                  · rw [hq] at hlk
                    have HQ := Lib.hid hq
                    clear hq
                    go_wp2_with (fail)
                    go_roundw
                    case rel =>
                      have h2 := HL.out.2
                      rw [HQ.out, if_pos rfl] at h2
                      exact ⟨j + 1, by omega, by go_num, by rw [HL.out.1, h2]; rfl, by rw [HL.out.1]; omega, by first | rfl | trivial⟩
                    case measure => simp [intOf]; omega
                · obtain rfl : j = sent'.length := by omega
                  rw [hLf.out]
                  have ck := Check_any _ sent'.length _ tl hO4.ps
                  rw [hIr] at ck
                  go_wp2_with (go_at_call 17; (with_reducible refine ck.mono ?_); rintro e w9 ⟨rfl, x9⟩; replace d0 := cells_ext x9 d0; replace d1 := cells_ext x9 d1)
                  go_roundw
                  case rel => exact ⟨k + 1, sent'.length, n', ov', _, tl, rs3, sent', sa', sc', by omega, by omega, by go_num, rfl, by omega, by omega, own_ext hown'.out x9 (fun _ _ => by simp), b8.ext x9 (by simp), hO4.ext x9, hM'.ext x9 (by simp), hI', hS', hXc.trans x9⟩
                  case measure => simp [intOf]; omega
        · have he' : ((o.tells sent.length ln).e != 0) = true := by simpa using he
          generalize (o.tells sent.length ln).e = te at *
          clear he
          go_wp2_with (fail)
          go_roundw
          case rel => exact ⟨k + 1, sent.length, n, ov, _, ln, rs, sent, sa, sc, by omega, by omega, by go_num, rfl, by omega, by omega, hown, b3, hP, hM, hI, hS, hX⟩
          case measure => simp [intOf]; omega
    · obtain rfl : k = Lo.length := by omega
      go_wp2_with (fail)
      go_ret
      exact ⟨rfl, hX.below⟩
end Go.Proofs.Ytpdfmeaemlgniaa
