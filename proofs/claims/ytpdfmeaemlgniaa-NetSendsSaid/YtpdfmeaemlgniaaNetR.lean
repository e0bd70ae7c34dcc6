
/-
  The Nums of the parcels to a node: For.
-/
import Derived.Test.YtpdfmeaemlgniaaNetQ
namespace Go.Proofs.Ytpdfmeaemlgniaa
open Go.RowKit Go.Shelf
open Go.Lib hiding intOf
set_option linter.unusedVariables false
set_option linter.unusedSimpArgs false
attribute [local go_sem] Oper.semAt_some

theorem wpListIn_append_sl {F : Fence} {nn : Nat} {P : Program} {w : World} {ops : Array Oper} {rest : List Oper} {o : Oper} {a : Act} {Q : Exit → Act → World → Prop}
    {t e : TypeId} {size bytes : Nat} {z : Value} (T : SliceTy P t e size bytes z) (hgd : o.guard = none) (s x : Operand)
    (ho : o.op = .call { callee := .builtin .append, args := #[s, x], argTypes := #[t, t] })
    {base n m ob off c : Nat} {v : Value} {xs news : List Value} (hs : a.eval s = v) (hown : w.ownsRow base e size v n xs) (hx : a.eval x = .slice (some ⟨ob, off, none⟩) m c) (hsl : Sl w (.slice (some ⟨ob, off, none⟩) m c) ob size m news) (h1 : ∀ u ∈ news, u.oneCell' = true)
    (h63 : n + m ≤ maxLen) (hbytes : (n + m) * bytes ≤ 140737488355328) (hbase : base ≤ w.heap.size)
    (h : ∀ v' w', w'.ownsRow base e size v' (n + m) (xs ++ news) → Ext v.ownBlock.toList w w' → wpListIn F nn P ops Q rest (a.put o.dst v') w') : wpListIn F nn P ops Q (o :: rest) a w := by
  obtain ⟨i, i1, i2, i3, i4⟩ := T.info
  obtain ⟨hl, hsl⟩ := hsl
  rcases hsl with ⟨h0, _⟩ | ⟨off', sp, cap, he, hc1, hc2, hsp, hc⟩
  · simp at h0
  · simp only [Value.slice.injEq, Option.some.injEq, Addr.mk.injEq] at he
    obtain ⟨⟨_, rfl, rfl⟩, _, rfl⟩ := he
    exact wpListIn_append_own w hgd s x t ho base e i z size bytes T.und i1 i2 i3 i4 T.zc T.pos v n xs hs hown ⟨ob, off, none⟩ m c news hx hl (fun j u hu => by simpa only [add_off] using hc j u hu) h1 h63 hbytes hbase
      fun v' w' r1 r2 _ => h v' w' r1 (Ext.ofGrown r2)
theorem own_grown {W W' : World} {row : Option Nat} {A e size n B : Nat} {v : Value} {xs : List Value} (h : W.ownsRow A e size v n xs) (hg : W.grownBy W' row) (hr : ∀ r, row = some r → B ≤ r ∧ ∃ o : Obj, W.heap[r]? = some o ∧ o.isCells = false) : W'.ownsRow A e size v n xs := by
  refine ⟨h.1, ?_⟩
  rcases h.2 with h2 | ⟨g, cap, cur, rfl, h1, h2, h3⟩
  · exact .inl h2
  · exact .inr ⟨g, cap, cur, rfl, h1, cells_grown h2 hg hr, h3⟩
theorem TU64 : SliceTy Try.prog 45 22 1 8 (.int .u64 0) := SliceTy.mk' (by kernel_rfl) (by kernel_rfl) rfl (by decide)
def UV (n : Nat) : Value := .int .u64 (n : Int)
def pnums (pre : List PX) : List Nat := pre.map fun x => x.p.num
/-- what For keeps between two parcels -/
structure ForI (n0 : Nat) (w1 : World) (pre : List PX) (W : World) : Prop where
  own : ∃ a m, W.heap[n0]? = some (.cells #[.slice a pre.length m] 45 (0, 0)) ∧ W.ownsRow (n0 + 3) 22 1 (.slice a pre.length m) pre.length ((pnums pre).map UV)
  below : Below n0 w1 W
  size : n0 + 3 ≤ W.heap.size
theorem ForI.ownFrom (n0 : Nat) (w1 : World) (B : Nat) (hB : n0 ≤ B) (hn : n0 ≤ w1.heap.size) : OwnFrom B (ForI n0 w1) := fun s W W' row hs hg hr => by
  obtain ⟨a, m, h1, h2⟩ := hs.own
  exact ⟨⟨a, m, cells_grown h1 hg hr, own_grown h2 hg hr⟩, ownFrom_below (β := Unit) hn hB () W W' row hs.below hg hr, Nat.le_trans hs.size hg.size⟩
theorem ForI.ext {n0 : Nat} {w1 W W' : World} {pre : List PX} (h : ForI n0 w1 pre W) (hn : n0 ≤ W.heap.size) (he : Ext [] W W') : ForI n0 w1 pre W' := by
  obtain ⟨a, m, h1, h2⟩ := h.own
  exact ⟨⟨a, m, he.heap h1 (by simp), own_ext h2 he (fun _ _ => by simp)⟩, h.below.trans (he.below.mono hn), Nat.le_trans h.size he.size⟩
theorem forM_px {s : Nat} {l : List Par} {xs : List PX} {node : Int} (h : xs.map PX.p = l) (hr : right ⟨s, l⟩ = true) : pnums (xs.filter fun x => x.p.to == node) = forM ⟨s, l⟩ node := by
  unfold forM pnums
  rw [if_pos hr, ← h, List.filter_map, List.map_map]
  rfl
abbrev forA (s : Nat) (v : Value) (node : Int) (z n0 pb : Nat) (x : PX) : Act := { tmps := #[NV s v, .int .i64 node, .pointer (some ⟨z, 0, none⟩), .pointer (some ⟨z + 1, 0, none⟩), .slice none 0 0, .pointer (some ⟨n0, 0, none⟩), .pointer (some ⟨pb, 0, none⟩), .agg #[.int .u64 (s : Int), v], .int .i64 (okE true), .bool false, .agg #[.int .u64 (s : Int), v], .func (.func 49) #[] #[.pointer (some ⟨z + 1, 0, none⟩)], .func (.func 68) #[] #[pt (n0 + 1), pt (n0 + 1 + 1)], PV x.p.num x.p.fr x.p.to (.slice x.a x.p.bs.length x.c) x.p.sp, undef, undef, undef, undef, undef, undef], defers := [] }
set_option maxRecDepth 100000 in
set_option maxHeartbeats 4000000 in
theorem for_right (w : World) (s : Nat) (node : Int) (v : Value) (l : List Par) (hP : Ps w v l) (hr : right ⟨s, l⟩ = true) : Calls Try.prog 21 #[NV s v, .int .i64 node] w fun e w' => ∃ v', e = .returned v' ∧ w'.ownsRow w.heap.size 22 1 v' (forM ⟨s, l⟩ node).length ((forM ⟨s, l⟩ node).map UV) ∧ Ext [] w w' := by
  obtain ⟨ob, rs, hRs, hRI⟩ := hP
  obtain ⟨xs, hxp, hxr⟩ := hRI.px
  obtain ⟨a, c, rfl⟩ := hRs.shape
  have hrx : rs.length = xs.length := by rw [← hxr, List.length_map]
  rw [hrx] at hRs ⊢
  have hxl : xs.length = l.length := by rw [← hxp, List.length_map]
  have hll : xs.length ≤ 20000 := by have := (right_len hr).2.1; dsimp only at this; omega
  have hPs : Ps w (.slice a xs.length c) l := ⟨ob, rs, hRs, hRI⟩
  rw [← hxr] at hRs
  have e1 := (Ext.refl [] w).alloc (.cells #[.int .u64 (s : Int), .slice a xs.length c] 25)
  have e2 := (Ext.refl [] (w.alloc (.cells #[.int .u64 (s : Int), .slice a xs.length c] 25))).alloc (.cells #[.int .i64 node] 3)
  have b1 := (Blk.new w [.int .u64 (s : Int), .slice a xs.length c] 25).ext e2 (by simp)
  have b2 := Blk.new (w.alloc (.cells #[.int .u64 (s : Int), .slice a xs.length c] 25)) [.int .i64 node] 3
  have hE := e1.trans e2
  simp only [World.size_alloc] at b2
  have ck := Check_any ((w.alloc (.cells #[.int .u64 (s : Int), .slice a xs.length c] 25)).alloc (.cells #[.int .i64 node] 3)) s _ l (hPs.ext hE)
  rw [hr] at ck
  have hfm := Lib.hid (forM_px (node := node) hxp hr)
  obtain ⟨d0, d1⟩ := b1.c2
  clear hr hxp hxr hRI hPs hxl hrx e1 e2
  refine (callsIn_wide (n := 8)).1 ?_
  refine callsIn_of_wp_marks Try.func21 rfl trivial ?_ rfl
  simp only [Try.ntmps21, List.size_toArray, List.length_cons, List.length_nil, Nat.reduceAdd, Nat.reduceSub, Array.replicate_succ, Array.replicate_zero, List.push_toArray, List.append_toArray, List.nil_append, List.cons_append]
  have f1 : Fence.wide.fn 17 := trivial
  have f2 : Fence.wide.fn 48 := trivial
  have n1 : 1 ≤ 8 := by decide
  gi_wp2_with (first
    | (gi_at_call 17; refine (callsIn_wide.2 ck).mono ?_; rintro e w1 ⟨rfl, x1⟩; have hX1 := hE.trans x1; have y1 := x1.trans ((Ext.refl [] w1).alloc (.cells #[.slice none 0 0] 45)); have d0 := cells_ext y1 d0; have d1 := cells_ext y1 d1)
    | (gi_at_call 48; refine (callsIn_wide.2 (those_For _ _ _ _ _ _)).mono ?_; rintro e w2 ⟨rfl, rfl⟩))
  have hb1 := b1.ext x1 (by simp)
  have hb2 := b2.ext x1 (by simp)
  clear d0 d1 b1 b2 ck
  generalize hz : w.heap.size = z at *
  have hz1 : z + 2 ≤ w1.heap.size := by have := hb2.lt; omega
  have hRs1 := fun W (h : Below w1.heap.size w1 W) => hRs.ext (hX1.trans (Ext.ofBelow h)) (by simp)
  generalize hn : w1.heap.size = n0 at *
  have yA := (Ext.refl [] w1).alloc (.cells #[.slice none 0 0] 45)
  have yB := (Ext.refl [] (w1.alloc (.cells #[.slice none 0 0] 45))).alloc (.cells #[.int .u64 (s : Int), .slice a xs.length c] 25)
  have yC := (Ext.refl [] ((w1.alloc (.cells #[.slice none 0 0] 45)).alloc (.cells #[.int .u64 (s : Int), .slice a xs.length c] 25))).alloc (.cells #[.func (.func 49) #[] #[.pointer (some ⟨z + 1, 0, none⟩)]] 63)
  have gA := (Blk.new w1 [.slice none 0 0] 45).ext (yB.trans yC) (by simp)
  have gB := (Blk.new (w1.alloc (.cells #[.slice none 0 0] 45)) [.int .u64 (s : Int), .slice a xs.length c] 25).ext yC (by simp)
  have gC := Blk.new ((w1.alloc (.cells #[.slice none 0 0] 45)).alloc (.cells #[.int .u64 (s : Int), .slice a xs.length c] 25)) [.func (.func 49) #[] #[.pointer (some ⟨z + 1, 0, none⟩)]] 63
  have yy := (yA.trans yB).trans yC
  have hsz : (((w1.alloc (.cells #[.slice none 0 0] 45)).alloc (.cells #[.int .u64 (s : Int), .slice a xs.length c] 25)).alloc (.cells #[.func (.func 49) #[] #[.pointer (some ⟨z + 1, 0, none⟩)]] 63)).heap.size = n0 + 1 + 1 + 1 := by simp [hn]
  simp only [World.size_alloc, hn] at gA gB gC
  generalize ((w1.alloc (.cells #[.slice none 0 0] 45)).alloc (.cells #[.int .u64 (s : Int), .slice a xs.length c] 25)).alloc (.cells #[.func (.func 49) #[] #[.pointer (some ⟨z + 1, 0, none⟩)]] 63) = wL at *
  clear yA yB yC y1
  have hyB : Below n0 w1 wL := by rw [← hn]; exact yy.below
  have hI0 : ForI n0 w1 [] wL := ⟨⟨none, 0, gA, World.ownsRow_nil _ _ _ _⟩, hyB, by omega⟩
  refine wpIn_rangeFunc_ownH rfl n1 (gf := 68) (lb := #[pt (n0 + 1), pt (n0 + 1 + 1)]) rfl trivial (enters_of Try.func68 (by kernel_rfl) rfl)
    (thosein_For 7 (by decide) n0 [n0 + 1, n0 + 1 + 1] wL (by omega) (n0 + 1) (n0 + 1 + 1) s a c ob xs #[pt (z + 1)] gB gC (by simp) (by simp) (fun W h => hRs1 W (hyB.trans h)) (fun x => x.p.to == node)
      (fun W h x => for1_any W x (z + 1) node (((Ext.ofBelow (w := w1) (w' := W) (by rw [hn]; exact hyB.trans h))).heap hb2 (by simp))))
    (fun h k => h.trans k) (fun W l o o' hl ho hc hw => Spr.putObj W l o o' (by omega) ho hc hw) (Below.refl _ _) (fun _ => rfl)
    (ForI n0 w1) (fun c pre W => False) (ForI.ownFrom n0 w1 _ (by omega) (by omega)) (fun c s' A B' row hs' hg hr => hs'.elim) hI0
    (fun x a' W => ∃ pb, n0 ≤ pb ∧ a' = forA s (.slice a xs.length c) node z n0 pb x ∧ W.heap[pb]? = some (.cells #[.int .u64 (x.p.num : Int), .int .i64 x.p.fr, .int .i64 x.p.to, .slice x.a x.p.bs.length x.c, .bool x.p.sp] 33 (0, 0)))
    (fun x a' s' A B' row hs' hg hr => by obtain ⟨pb, h0, h1, h2⟩ := hs'; exact ⟨pb, h0, h1, cells_grown h2 hg hr⟩) ?assign ?body ?done ?stop
  case assign =>
    rintro l pre x W K hi hK
    have hsW := hi.size
    have x5 := (Ext.refl [] W).alloc (.cells #[.int .u64 (x.p.num : Int), .int .i64 x.p.fr, .int .i64 x.p.to, .slice x.a x.p.bs.length x.c, .bool x.p.sp] 33)
    have hp5 := Blk.new W [.int .u64 (x.p.num : Int), .int .i64 x.p.fr, .int .i64 x.p.to, .slice x.a x.p.bs.length x.c, .bool x.p.sp] 33
    simp only [penc] at *
    gi_wp2
    exact hK _ _ (KeepsFrom.ofExt x5 (by simp)) (Spr.ofExt x5 (by omega) (by simp)) (hi.ext (by omega) x5) ⟨_, by omega, rfl, hp5⟩
  case body =>
    rintro l pre x a' W hl ⟨r, hr⟩ hI ⟨pb, hpb, rfl, hpB⟩ hlt
    obtain ⟨a0, m0, h5, ho⟩ := hI.own
    have hsW := hI.size
    have k5 := cell_of_heap h5 0
    have kp := cell_of_heap hpB 0
    simp only [List.getElem?_toArray, List.getElem?_cons_zero] at k5 kp
    have hlt2 : pre.length < 20000 := by have := List.length_filter_le (fun x : PX => x.p.to == node) xs; omega
    have y1 := (Ext.refl [] W).alloc (.cells #[.int .u64 (x.p.num : Int)] 22)
    have ho1 := own_ext ho y1 (fun _ _ => by simp)
    have h51 : Blk _ n0 45 [.slice a0 pre.length m0] := y1.heap h5 (by simp)
    have hge : ∀ i ∈ (Value.slice a0 pre.length m0).ownBlock.toList, n0 + 3 ≤ i ∧ ∃ cs t fr, W.heap[i]? = some (Obj.cells cs t fr) := fun i hi => by
      have := own_block ho (show (Value.slice a0 pre.length m0).ownBlock = some i by simpa using hi)
      exact ⟨this.1, _, _, _, this.2.2.choose_spec⟩
    gi_wp2_with (gi_at_builtin; refine wpListIn_append_sl TU64 rfl (.tmp 14) (.tmp 17) rfl rfl ho1 rfl (Sl.lit W [.int .u64 (x.p.num : Int)] 22 1 1 rfl (by decide)) (by intro u hu; simp at hu; subst hu; rfl) (by unfold maxLen; omega) (by omega) (by simp; omega) ?_; intro v6 W6 r1 r2; obtain ⟨a6, c6, rfl⟩ := own_shape r1; have q2 : Ext (Value.slice a0 pre.length m0).ownBlock.toList _ W6 := r2; have h56 := h51.ext q2 (fun m => own_ne ho1 h51 (by decide) n0 (by simpa using m) (by simp)); have zf := h56.frozen 0; have kc : W6.cell? ⟨n0, 0, none⟩ = some (.slice a0 pre.length m0) := h56.cell 0)
    have hX : Ext (n0 :: (Value.slice a0 pre.length m0).ownBlock.toList) W (W6.setCell ⟨n0, 0, none⟩ (.slice a6 (pre.length + 1) c6)) := ((y1.mono (by simp)).trans (q2.mono (fun _ _ h => List.mem_cons_of_mem _ h))).setCell (p := ⟨n0, 0, none⟩) (.inl (by simp)) _
    have h57 := h56.set 0 (.slice a6 (pre.length + 1) c6)
    have r3 : W6.ownsRow (n0 + 3) 22 1 (.slice a6 (pre.length + 1) c6) (pre ++ [x]).length ((pnums (pre ++ [x])).map UV) := by
      rw [List.length_append]
      unfold pnums
      rw [List.map_append, List.map_append]
      exact r1
    have r4 := own_ext r3 ((Ext.refl [n0] W6).setCell (p := ⟨n0, 0, none⟩) (.inl (by simp)) (.slice a6 (pre.length + 1) c6)) (own_ne r3 h56 (by decide))
    refine ⟨KeepsFrom.ofExt hX fun b hb => ?_, Spr.ofExt hX (by omega) fun b hb => ?_, ⟨⟨a6, c6, by rw [List.length_append]; exact h57, by rw [List.length_append] at r4 ⊢; exact r4⟩, ?_, ?_⟩⟩
    · rcases List.mem_cons.1 hb with rfl | hb
      · exact ⟨_, _, _, h5⟩
      · exact (hge b hb).2
    · rcases List.mem_cons.1 hb with rfl | hb
      · exact ⟨by omega, by simp; omega, _, _, _, h5⟩
      · have := hge b hb
        exact ⟨by omega, by simp; omega, this.2⟩
    · have hB : Ext [] w1 W := Ext.ofBelow (by rw [hn]; exact hI.below)
      have := (hB.trans' hX (fun i hi => by
        rcases List.mem_cons.1 hi with rfl | hi
        · exact .inr (by omega)
        · exact .inr (by have := (hge i hi).1; omega))).below
      rwa [hn] at this
    · have := hX.size; omega
  case done =>
    rintro D xs' W hD rfl hI hK
    obtain ⟨a0, m0, h5, ho⟩ := hI.own
    have k5 := cell_of_heap h5 0
    simp only [List.getElem?_toArray, List.getElem?_cons_zero] at k5
    gi_wp2
    have hDn : n0 < D := by omega
    refine ⟨by simp, .inl ⟨_, _, rfl, run_takeDeferred hK, ?_⟩⟩
    have hfl : (pnums (xs.filter fun x => x.p.to == node)).length = (xs.filter fun x => x.p.to == node).length := by unfold pnums; rw [List.length_map]
    have hbel : Below w1.heap.size w1 (W.putObj D (.deferred none)) := by rw [hn]; exact hI.below.trans (belowK_b (n₀ := n0) (w := w1) (by omega) W D _ _ (by omega) hK rfl rfl)
    refine ⟨.slice a0 (xs.filter fun x => x.p.to == node).length m0, by simp [results, Try.results21, go_sem], _, rfl, ?_, hX1.trans (Ext.ofBelow hbel)⟩
    rw [← hfm.out, hfl]
    exact own_mono (own_grown (B := D) ho (grownBy_putObj' W D _) (fun r e => by cases e; exact ⟨Nat.le_refl _, _, hK, rfl⟩)) (by omega)
  case stop =>
    rintro D c pre W hD hpre hX hK
    exact hX.elim
set_option maxRecDepth 100000 in
set_option maxHeartbeats 4000000 in
theorem for_wrong (w : World) (s : Nat) (node : Int) (v : Value) (l : List Par) (hP : Ps w v l) (hr : right ⟨s, l⟩ = false) : Calls Try.prog 21 #[NV s v, .int .i64 node] w fun e w' => e = .returned (.slice none 0 0) ∧ Ext [] w w' := by
  obtain ⟨a, c, rfl⟩ := hP.shape
  have e1 := (Ext.refl [] w).alloc (.cells #[.int .u64 (s : Int), .slice a l.length c] 25)
  have e2 := (Ext.refl [] (w.alloc (.cells #[.int .u64 (s : Int), .slice a l.length c] 25))).alloc (.cells #[.int .i64 node] 3)
  have b1 := (Blk.new w [.int .u64 (s : Int), .slice a l.length c] 25).ext e2 (by simp)
  have hE := e1.trans e2
  have ck := Check_any ((w.alloc (.cells #[.int .u64 (s : Int), .slice a l.length c] 25)).alloc (.cells #[.int .i64 node] 3)) s _ l (hP.ext hE)
  rw [hr] at ck
  obtain ⟨d0, d1⟩ := b1.c2
  clear hr hP e1 e2
  go_enter Try.func21, Try.ntmps21
  go_wp2_with (go_at_call 17; (with_reducible refine ck.mono ?_); rintro e w1 ⟨rfl, x1⟩)
  go_ret
  exact ⟨rfl, hE.trans x1⟩
theorem For_any (w : World) (s : Nat) (node : Int) (v : Value) (l : List Par) (hP : Ps w v l) : Calls Try.prog 21 #[NV s v, .int .i64 node] w fun e w' => ∃ v', e = .returned v' ∧ w'.ownsRow w.heap.size 22 1 v' (forM ⟨s, l⟩ node).length ((forM ⟨s, l⟩ node).map UV) ∧ Ext [] w w' := by
  cases hr : right ⟨s, l⟩
  · refine (for_wrong w s node v l hP hr).mono ?_
    rintro e w' ⟨rfl, x⟩
    refine ⟨_, rfl, ?_, x⟩
    rw [show forM ⟨s, l⟩ node = [] by unfold forM; rw [hr]; rfl]
    exact World.ownsRow_nil _ _ _ _
  · exact for_right w s node v l hP hr
/-! ## Pick -/
def pickM (n : Nt) (k : Int) : Nat × Bool := if right n = true then (match n.ps[(max k 0).toNat % n.ps.length]? with | some p => (p.num, true) | none => (0, false)) else (0, false)
set_option maxRecDepth 100000 in
set_option maxHeartbeats 4000000 in
theorem Pick_any (w : World) (s : Nat) (k : Int) (v : Value) (l : List Par) (hP : Ps w v l) (hk1 : -9223372036854775808 ≤ k) (hk2 : k < 9223372036854775808) :
    Calls Try.prog 22 #[NV s v, .int .i64 k] w fun e w' => e = .returned (.tuple #[.int .u64 ((pickM ⟨s, l⟩ k).1 : Int), .bool (pickM ⟨s, l⟩ k).2]) ∧ Ext [] w w' := by
  obtain ⟨a, c, rfl⟩ := hP.shape
  have hE := (Ext.refl [] w).alloc (.cells #[.int .u64 (s : Int), .slice a l.length c] 25)
  have b1 := Blk.new w [.int .u64 (s : Int), .slice a l.length c] 25
  have hP := hP.ext hE
  have ck := Check_any (w.alloc (.cells #[.int .u64 (s : Int), .slice a l.length c] 25)) s _ l hP
  obtain ⟨d0, d1⟩ := b1.c2
  cases hr : right ⟨s, l⟩
  · have hM : pickM ⟨s, l⟩ k = (0, false) := by unfold pickM; rw [hr]; rfl
    rw [hM]
    rw [hr] at ck
    clear hr hP hM
    go_enter Try.func22, Try.ntmps22
    go_wp2_with (go_at_call 17; (with_reducible refine ck.mono ?_); rintro e w1 ⟨rfl, x1⟩)
    refine bodyPost_ret (v := .tuple #[.int .u64 0, .bool false]) (by simp [results, Try.results22, go_sem]) rfl ?_
    exact ⟨rfl, hE.trans x1⟩
  · rw [hr] at ck
    have hll : l.length ≤ 20000 := by have := (right_len hr).2.1; dsimp only at this; exact this
    by_cases h0 : l.length = 0
    · have hM : pickM ⟨s, l⟩ k = (0, false) := by
        unfold pickM
        rw [if_pos hr]
        obtain rfl := List.eq_nil_of_length_eq_zero h0
        rfl
      rw [hM]
      clear hr hP hM
      rw [h0] at ck d1 d0 hE ⊢
      go_enter Try.func22, Try.ntmps22
      go_wp2_with (go_at_call 17; (with_reducible refine ck.mono ?_); rintro e w1 ⟨rfl, x1⟩; have d0 := cells_ext x1 d0; have d1 := cells_ext x1 d1)
      refine bodyPost_ret (v := .tuple #[.int .u64 0, .bool false]) (by simp [results, Try.results22, go_sem]) rfl ?_
      exact ⟨rfl, hE.trans x1⟩
    · have hj : (max k 0).toNat % l.length < l.length := Nat.mod_lt _ (by omega)
      have hp : l[(max k 0).toNat % l.length]? = some l[(max k 0).toNat % l.length] := List.getElem?_eq_getElem hj
      have hjj : Int.tmod (max k 0) (l.length : Int) = (((max k 0).toNat % l.length : Nat) : Int) := by
        rw [Int.tmod_eq_emod_of_nonneg (by omega)]
        have : max k 0 = (((max k 0).toNat : Nat) : Int) := by omega
        conv => lhs; rw [this]
        rfl
      generalize l[(max k 0).toNat % l.length] = p at *
      have hM : pickM ⟨s, l⟩ k = (p.num, true) := by
        unfold pickM
        rw [if_pos hr]
        show (match l[(max k 0).toNat % l.length]? with | some p => (p.num, true) | none => (0, false)) = _
        rw [hp]
      rw [hM]
      generalize (max k 0).toNat % l.length = j at *
      obtain ⟨ob, o, a1, c1, rfl, f0, f1, f2, f3, f4, -⟩ := hP.at j p hp
      have hlm : l.length ≠ 0 := h0
      have hl0 : ((l.length : Int) == 0) = false := by simpa using h0
      clear hr hP hM hp f1 f2 f3 f4
      have hl1 : ¬ (l.length : Int) = 0 := by omega
      go_enter Try.func22, Try.ntmps22
      go_upto_region 3 with (go_at_call 17; (with_reducible refine ck.mono ?_); rintro e w1 ⟨rfl, x1⟩; have d0 := cells_ext x1 d0; have d1 := cells_ext x1 d1; have f0 := cells_ext x1 f0)
      go_region
      go_wp2_with (fail)
      refine bodyPost_ret (v := .tuple #[.int .u64 (p.num : Int), .bool true]) (by simp [results, Try.results22, go_sem]) rfl ?_
      exact ⟨rfl, hE.trans x1.drew⟩
end Go.Proofs.Ytpdfmeaemlgniaa
