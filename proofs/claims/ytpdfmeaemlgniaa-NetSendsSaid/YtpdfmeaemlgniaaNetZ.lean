
/-
  Drop.
-/
import Derived.Test.YtpdfmeaemlgniaaNetR
import Derived.Test.YtpdfmeaemlgniaaNetN
namespace Go.Proofs.Ytpdfmeaemlgniaa
open Go.RowKit Go.Shelf
open Go.Lib hiding intOf
set_option linter.unusedVariables false
set_option linter.unusedSimpArgs false
attribute [local go_sem] Oper.semAt_some

/-- what Drop keeps between two parcels -/
structure DropI (n0 : Nat) (w1 : World) (pre : List PX) (W : World) : Prop where
  own : ∃ a m, W.heap[n0]? = some (.cells #[.slice a pre.length m] 23 (0, 0)) ∧ W.ownsRow (n0 + 3) 33 5 (.slice a pre.length m) pre.length (prows (pre.map PX.raw))
  below : Below n0 w1 W
  size : n0 + 3 ≤ W.heap.size
theorem DropI.ownFrom (n0 : Nat) (w1 : World) (B : Nat) (hB : n0 ≤ B) (hn : n0 ≤ w1.heap.size) : OwnFrom B (DropI n0 w1) := fun s W W' row hs hg hr => by
  obtain ⟨a, m, h1, h2⟩ := hs.own
  exact ⟨⟨a, m, cells_grown h1 hg hr, own_grown h2 hg hr⟩, ownFrom_below (β := Unit) hn hB () W W' row hs.below hg hr, Nat.le_trans hs.size hg.size⟩
theorem DropI.ext {n0 : Nat} {w1 W W' : World} {pre : List PX} (h : DropI n0 w1 pre W) (hn : n0 ≤ W.heap.size) (he : Ext [] W W') : DropI n0 w1 pre W' := by
  obtain ⟨a, m, h1, h2⟩ := h.own
  exact ⟨⟨a, m, he.heap h1 (by simp), own_ext h2 he (fun _ _ => by simp)⟩, h.below.trans (he.below.mono hn), Nat.le_trans h.size he.size⟩
/-- what the closure tells of a net that was changed so -/
def DDrop (A cg : Nat) (T : Told) (s' : Nat) (v' : Value) (w' : World) : Prop := (T.e = 0 → s' = T.n.s ∧ ∃ rs', OPs A w' v' T.n.ps rs') ∧ Blk w' cg 3 [.int .i64 (T.gone : Int)]
theorem Sep.pair {rs : List PRaw} (h : Sep rs) : rs.Pairwise (fun r r' => (∀ b, r.b.ownBlock = some b → r'.b.ownBlock ≠ some b) ∧ (∀ b, r'.b.ownBlock = some b → r.b.ownBlock ≠ some b)) := by
  rw [List.pairwise_iff_getElem]
  intro i j hi hj hij
  exact ⟨h i j _ _ (List.getElem?_eq_getElem hi) (List.getElem?_eq_getElem hj) (by omega), h j i _ _ (List.getElem?_eq_getElem hj) (List.getElem?_eq_getElem hi) (by omega)⟩
theorem Sep.of {rs : List PRaw} (h : rs.Pairwise (fun r r' => (∀ b, r.b.ownBlock = some b → r'.b.ownBlock ≠ some b) ∧ (∀ b, r'.b.ownBlock = some b → r.b.ownBlock ≠ some b))) : Sep rs := by
  rw [List.pairwise_iff_getElem] at h
  intro i j r r' hr hr' hij
  obtain ⟨hi, rfl⟩ := List.getElem?_eq_some_iff.1 hr
  obtain ⟨hj, rfl⟩ := List.getElem?_eq_some_iff.1 hr'
  by_cases hlt : i < j
  · exact (h i j hi hj hlt).1
  · exact (h j i hj hi (by omega)).2
/-- the parcels of which something holds, in a list of their own -/
theorem OPs.sift {S A : Nat} {W W' : World} {v v' : Value} {l : List Par} {rs : List PRaw} {xs : List PX} (h : OPs S W v l rs) (hx : xs.map PX.p = l) (hr : xs.map PX.raw = rs) (keep : PX → Bool) (hA : A ≤ S)
    (ho : W'.ownsRow A 33 5 v' ((xs.filter keep).map PX.raw).length (prows ((xs.filter keep).map PX.raw))) (hb : ∀ x ∈ xs, OIs S W' x.raw x.p) : OPs A W' v' ((xs.filter keep).map PX.p) ((xs.filter keep).map PX.raw) := by
  refine ⟨ho, ⟨by simp, fun k r p h1 h2 => ?_⟩, Sep.of ?_⟩
  · rw [List.getElem?_map, Option.map_eq_some_iff] at h1 h2
    obtain ⟨x, hx1, rfl⟩ := h1
    obtain ⟨y, hy1, rfl⟩ := h2
    rw [hx1] at hy1
    obtain rfl := Option.some.inj hy1
    exact (hb x (List.mem_filter.1 (List.mem_of_getElem? hx1)).1).mono hA
  · have := h.sep.pair
    rw [← hr, List.pairwise_map] at this
    rw [List.pairwise_map]
    exact this.filter _
abbrev dropA (s b n0 pb cf ct cg : Nat) (v : Value) (f t : Int) (x : PX) : Act := { tmps := #[pt b, pt cf, pt ct, pt cg, undef, .int .i64 0, .pointer (some ⟨n0, 0, none⟩), .pointer (some ⟨pb, 0, none⟩), .int .i64 f, .int .i64 t, .bool true, .bool false, pt b, .pointer (some ⟨b, 0, none⟩), .agg #[.int .u64 (s : Int), v], .func (.func 67) #[] #[pt cf, pt ct], .func (.func 68) #[] #[pt (n0 + 1), pt (n0 + 1 + 1)], PV x.p.num x.p.fr x.p.to (.slice x.a x.p.bs.length x.c) x.p.sp, undef, undef, undef, undef, undef, undef, undef, undef, undef, undef, undef, undef, undef, undef, undef, undef], defers := [] }
set_option maxRecDepth 100000 in
set_option maxHeartbeats 4000000 in
theorem drop1_any (W : World) (b S s cf ct cg : Nat) (v : Value) (l : List Par) (rs : List PRaw) (f t : Int) (hN : Blk W b 25 [.int .u64 (s : Int), v]) (hO : OPs S W v l rs) (hbS : b < S) (hS : S ≤ W.heap.size) (hll : l.length ≤ 20000)
    (kf : Blk W cf 3 [.int .i64 f]) (kt : Blk W ct 3 [.int .i64 t]) (kg : Blk W cg 3 [.int .i64 0]) (hgS : cg < S) :
    Calls Try.prog 66 #[pt b, pt cf, pt ct, pt cg] W fun e w' => ∃ (s' : Nat) (v' : Value), (∃ a' n' c', v' = .slice a' n' c') ∧ e = .returned (.int .i64 (dropM ⟨s, l⟩ f t).e) ∧ Blk w' b 25 [.int .u64 (s' : Int), v'] ∧ DDrop S cg (dropM ⟨s, l⟩ f t) s' v' w' ∧ Did S b [cg] W w' := by
  have cw := fun w => isWay_any w f t
  unfold dropM
  obtain ⟨av, cv, rfl⟩ := hO.shape
  have kf0 := kf.cell 0
  have kt0 := kt.cell 0
  obtain ⟨d0, d1⟩ := hN.c2
  cases hw : isWay f t
  · rw [hw] at cw
    have HH := Lib.hid (And.intro hN kg)
    clear hN hO hw kf kt kg
    go_enter Try.func66, Try.ntmps66
    go_wp2_with (go_at_call 52; (with_reducible refine (cw _).mono ?_); rintro e w' ⟨rfl, rfl⟩)
    go_ret
    exact ⟨s, _, ⟨_, _, _, rfl⟩, rfl, HH.out.1, ⟨(fun h => by cases h), HH.out.2⟩, Did.ofExt (Ext.refl _ _)⟩
  · rw [hw] at cw
    rw [if_neg (by simp)]
    clear hw
    refine (callsIn_wide (n := 8)).1 ?_
    refine callsIn_of_wp_marks Try.func66 rfl trivial ?_ rfl
    simp only [Try.ntmps66, List.size_toArray, List.length_cons, List.length_nil, Nat.reduceAdd, Nat.reduceSub, Array.replicate_succ, Array.replicate_zero, List.push_toArray, List.append_toArray, List.nil_append, List.cons_append]
    have f1 : Fence.wide.fn 52 := trivial
    have f2 : Fence.wide.fn 48 := trivial
    have n1 : 1 ≤ 8 := by decide
    have yA := (Ext.refl [] W).alloc (.cells #[.slice none 0 0] 23)
    have dA0 := cells_ext yA d0
    have dA1 := cells_ext yA d1
    gi_wp2_with (first
      | (gi_at_call 52; refine (callsIn_wide.2 (cw _)).mono ?_; rintro e w' ⟨rfl, rfl⟩)
      | (gi_at_call 48; refine (callsIn_wide.2 (those_Drop _ _ _ _ _ _)).mono ?_; rintro e w2 ⟨rfl, rfl⟩))
    obtain ⟨xs, hxp, hxr⟩ := hO.all.ris.px
    have hxl : xs.length = l.length := by rw [← hxp, List.length_map]
    have hrl : rs.length = xs.length := by rw [← hxr, List.length_map]
    obtain ⟨ob, hRs, _⟩ := Sl.of_own hO.own
    have hRs : Rs W (.slice av l.length cv) ob rs := hRs
    rw [← hxr] at hRs
    rw [← hxl] at hRs hN hO ⊢
    have hxll : xs.length ≤ 20000 := by omega
    have HXL := Lib.hid hxl
    clear d0 d1 dA0 dA1 yA hxl hrl
    generalize hn : W.heap.size = n0 at *
    have yA := (Ext.refl [] W).alloc (.cells #[.slice none 0 0] 23)
    have yB := (Ext.refl [] (W.alloc (.cells #[.slice none 0 0] 23))).alloc (.cells #[.int .u64 (s : Int), .slice av xs.length cv] 25)
    have yC := (Ext.refl [] ((W.alloc (.cells #[.slice none 0 0] 23)).alloc (.cells #[.int .u64 (s : Int), .slice av xs.length cv] 25))).alloc (.cells #[.func (.func 67) #[] #[pt cf, pt ct]] 63)
    have gA := (Blk.new W [.slice none 0 0] 23).ext (yB.trans yC) (by simp)
    have gB := (Blk.new (W.alloc (.cells #[.slice none 0 0] 23)) [.int .u64 (s : Int), .slice av xs.length cv] 25).ext yC (by simp)
    have gC := Blk.new ((W.alloc (.cells #[.slice none 0 0] 23)).alloc (.cells #[.int .u64 (s : Int), .slice av xs.length cv] 25)) [.func (.func 67) #[] #[pt cf, pt ct]] 63
    have yy := (yA.trans yB).trans yC
    have hsz : (((W.alloc (.cells #[.slice none 0 0] 23)).alloc (.cells #[.int .u64 (s : Int), .slice av xs.length cv] 25)).alloc (.cells #[.func (.func 67) #[] #[pt cf, pt ct]] 63)).heap.size = n0 + 1 + 1 + 1 := by simp [hn]
    simp only [World.size_alloc, hn] at gA gB gC
    generalize ((W.alloc (.cells #[.slice none 0 0] 23)).alloc (.cells #[.int .u64 (s : Int), .slice av xs.length cv] 25)).alloc (.cells #[.func (.func 67) #[] #[pt cf, pt ct]] 63) = wL at *
    clear yA yB yC
    have hyB : Below n0 W wL := by rw [← hn]; exact yy.below
    have hI0 : DropI n0 W [] wL := ⟨⟨none, 0, gA, World.ownsRow_nil _ _ _ _⟩, hyB, by omega⟩
    have hEx := fun U (h : Below n0 W U) => Ext.ofBelow (w := W) (w' := U) (by rw [hn]; exact h)
    refine wpIn_rangeFunc_ownH rfl n1 (gf := 68) (lb := #[pt (n0 + 1), pt (n0 + 1 + 1)]) rfl trivial (enters_of Try.func68 (by kernel_rfl) rfl)
      (thosein_Drop 7 (by decide) n0 [n0 + 1, n0 + 1 + 1] wL (by omega) (n0 + 1) (n0 + 1 + 1) s av cv ob xs #[pt cf, pt ct] gB gC (by simp) (by simp) (fun U h => hRs.ext (hEx U (hyB.trans h)) (by simp)) (fun x => x.p.fr != f || x.p.to != t)
        (fun U h x => drop11_any U x cf ct f t (kf.ext (hEx U (hyB.trans h)) (by simp)) (kt.ext (hEx U (hyB.trans h)) (by simp))))
      (fun h k => h.trans k) (fun W l o o' hl ho hc hw => Spr.putObj W l o o' (by omega) ho hc hw) (Below.refl _ _) (fun _ => rfl)
      (DropI n0 W) (fun c pre W => False) (DropI.ownFrom n0 W _ (by omega) (by omega)) (fun c s' A B' row hs' hg hr => hs'.elim) hI0
      (fun x a' U => ∃ pb, n0 ≤ pb ∧ a' = dropA s b n0 pb cf ct cg (.slice av xs.length cv) f t x ∧ U.heap[pb]? = some (.cells #[.int .u64 (x.p.num : Int), .int .i64 x.p.fr, .int .i64 x.p.to, .slice x.a x.p.bs.length x.c, .bool x.p.sp] 33 (0, 0)))
      (fun x a' s' A B' row hs' hg hr => by obtain ⟨pb, h0, h1, h2⟩ := hs'; exact ⟨pb, h0, h1, cells_grown h2 hg hr⟩) ?assign ?body ?done ?stop
    case assign =>
      rintro l' pre x U K hi hK
      have hsW := hi.size
      have x5 := (Ext.refl [] U).alloc (.cells #[.int .u64 (x.p.num : Int), .int .i64 x.p.fr, .int .i64 x.p.to, .slice x.a x.p.bs.length x.c, .bool x.p.sp] 33)
      have hp5 := Blk.new U [.int .u64 (x.p.num : Int), .int .i64 x.p.fr, .int .i64 x.p.to, .slice x.a x.p.bs.length x.c, .bool x.p.sp] 33
      simp only [penc] at *
      gi_wp2
      exact hK _ _ (KeepsFrom.ofExt x5 (by simp)) (Spr.ofExt x5 (by omega) (by simp)) (hi.ext (by omega) x5) ⟨_, by omega, rfl, hp5⟩
    case body =>
      rintro l' pre x a' U hl ⟨r, hr⟩ hI ⟨pb, hpb, rfl, hpB⟩ hlt
      obtain ⟨a0, m0, h5, ho⟩ := hI.own
      have hsW := hI.size
      have k5 := cell_of_heap h5 0
      simp only [List.getElem?_toArray, List.getElem?_cons_zero] at k5
      obtain ⟨p0, p1, p2, p3, p4⟩ := Blk.c5 (show Blk U pb 33 [.int .u64 (x.p.num : Int), .int .i64 x.p.fr, .int .i64 x.p.to, .slice x.a x.p.bs.length x.c, .bool x.p.sp] from hpB)
      have hlt2 : pre.length < 20000 := by have := List.length_filter_le (fun x : PX => x.p.fr != f || x.p.to != t) xs; omega
      have y1 := (Ext.refl [] U).alloc (.cells #[.int .u64 (x.p.num : Int), .int .i64 x.p.fr, .int .i64 x.p.to, .slice x.a x.p.bs.length x.c, .bool x.p.sp] 33)
      have ho1 := own_ext ho y1 (fun _ _ => by simp)
      have h51 : Blk _ n0 23 [.slice a0 pre.length m0] := y1.heap h5 (by simp)
      have hge : ∀ i ∈ (Value.slice a0 pre.length m0).ownBlock.toList, n0 + 3 ≤ i ∧ ∃ cs t fr, U.heap[i]? = some (Obj.cells cs t fr) := fun i hi => by
        have := own_block ho (show (Value.slice a0 pre.length m0).ownBlock = some i by simpa using hi)
        exact ⟨this.1, _, _, _, this.2.2.choose_spec⟩
      gi_wp2_with (gi_at_builtin; refine wpListIn_append_sl TPar rfl (.tmp 18) (.tmp 20) rfl rfl ho1 rfl (Sl.lit U [.int .u64 (x.p.num : Int), .int .i64 x.p.fr, .int .i64 x.p.to, .slice x.a x.p.bs.length x.c, .bool x.p.sp] 33 5 1 rfl (by decide)) (by intro u hu; simp at hu; rcases hu with rfl | rfl | rfl | rfl | rfl <;> rfl) (by unfold maxLen; omega) (by omega) (by simp; omega) ?_; intro v6 W6 r1 r2; obtain ⟨a6, c6, rfl⟩ := own_shape r1; have q2 : Ext (Value.slice a0 pre.length m0).ownBlock.toList _ W6 := r2; have h56 := h51.ext q2 (fun m => own_ne ho1 h51 (by decide) n0 (by simpa using m) (by simp)); have zf := h56.frozen 0; have kc : W6.cell? ⟨n0, 0, none⟩ = some (.slice a0 pre.length m0) := h56.cell 0)
      have hX : Ext (n0 :: (Value.slice a0 pre.length m0).ownBlock.toList) U (W6.setCell ⟨n0, 0, none⟩ (.slice a6 (pre.length + 1) c6)) := ((y1.mono (by simp)).trans (q2.mono (fun _ _ h => List.mem_cons_of_mem _ h))).setCell (p := ⟨n0, 0, none⟩) (.inl (by simp)) _
      have h57 := h56.set 0 (.slice a6 (pre.length + 1) c6)
      have r3 : W6.ownsRow (n0 + 3) 33 5 (.slice a6 (pre.length + 1) c6) (pre ++ [x]).length (prows ((pre ++ [x]).map PX.raw)) := by
        rw [List.length_append, List.map_append, prows, flat_append]
        show World.ownsRow _ _ _ _ _ _ (_ ++ flat PRaw.row [x.raw])
        rw [flat_one]
        exact r1
      have r4 := own_ext r3 ((Ext.refl [n0] W6).setCell (p := ⟨n0, 0, none⟩) (.inl (by simp)) (.slice a6 (pre.length + 1) c6)) (own_ne r3 h56 (by decide))
      refine ⟨KeepsFrom.ofExt hX fun b hb => ?_, Spr.ofExt hX (by omega) fun b hb => ?_, ⟨⟨a6, c6, by rw [List.length_append]; exact h57, by rw [List.length_append] at r4 ⊢; exact r4⟩, ?_, ?_⟩⟩
      · rcases List.mem_cons.1 hb with rfl | hb
        · exact ⟨_, _, _, h5⟩
        · exact (hge b hb).2
      · rcases List.mem_cons.1 hb with rfl | hb
        · exact ⟨by omega, by simp; omega, _, _, _, h5⟩
        · have := hge b hb
          exact ⟨by omega, by simp; omega, this.2⟩
      · have hB : Ext [] W U := hEx U hI.below
        have := (hB.trans' hX (fun i hi => by
          rcases List.mem_cons.1 hi with rfl | hi
          · exact .inr (by omega)
          · exact .inr (by have := (hge i hi).1; omega))).below
        rwa [hn] at this
      · have := hX.size; omega
    case done =>
      rintro D xs' U hD rfl hI hK
      obtain ⟨a0, m0, h5, ho⟩ := hI.own
      have k5 := cell_of_heap h5 0
      simp only [List.getElem?_toArray, List.getElem?_cons_zero] at k5
      have hU := hEx U hI.below
      have bU := hN.ext hU (by simp)
      have gU := kg.ext hU (by simp)
      obtain ⟨d0, d1⟩ := bU.c2
      have gf := gU.frozen 0
      have g0 := gU.cell 0
      have hfl : (xs.filter fun x => x.p.fr != f || x.p.to != t).length ≤ xs.length := List.length_filter_le _ _
      gi_wp2
      gi_region
      have HFL := Lib.hid hfl
      clear hfl
      have hcc : (((xs.filter fun x => x.p.fr != f || x.p.to != t).length : Nat) : Int) = (((xs.filter fun x => x.p.fr != f || x.p.to != t).length : Nat) : Int) := rfl
      have xg := ((Ext.refl [cg] U).setCell (p := ⟨cg, 0, none⟩) (.inl (by simp)) (.int .i64 ((xs.length : Int) - ((xs.filter fun x => x.p.fr != f || x.p.to != t).length : Int)))).drew
      have gU2 := (gU.set 0 (.int .i64 ((xs.length : Int) - ((xs.filter fun x => x.p.fr != f || x.p.to != t).length : Int)))).drew
      simp only [List.set_cons_zero] at gU2
      have hcgb : cg ≠ b := fun e => by
        subst e
        have := kg.symm.trans hN
        simp at this
      have bU2 := bU.ext xg (by simpa using hcgb.symm)
      have hcn : cg ≠ n0 := by omega
      have h52 := xg.heap h5 (by simpa using hcn.symm)
      have ho2 := own_ext ho xg (own_ne ho gU (by decide))
      have hK2 := xg.heap hK (by simp; omega)
      have hby : ∀ x ∈ xs, OIs S ((U.setCell ⟨cg, 0, none⟩ (.int .i64 ((xs.length : Int) - ((xs.filter fun x => x.p.fr != f || x.p.to != t).length : Int)))).drew) x.raw x.p := fun x hx => by
        obtain ⟨i, hi⟩ := List.getElem?_of_mem hx
        have h1 := (hO.all.2 i x.raw x.p (by rw [← hxr, List.getElem?_map, hi]; rfl) (by rw [← hxp, List.getElem?_map, hi]; rfl)).keep hU (fun _ _ => by simp)
        exact h1.keep xg (own_ne h1.2.2.2.2 gU (by decide))
      have hX2 : Ext [cg] W _ := (hU.mono (by simp)).trans xg
      generalize (U.setCell ⟨cg, 0, none⟩ (.int .i64 ((xs.length : Int) - ((xs.filter fun x => x.p.fr != f || x.p.to != t).length : Int)))).drew = U2 at *
      clear xg gf g0 d0 d1 k5 hcc
      have k5 := cell_of_heap h52 0
      simp only [List.getElem?_toArray, List.getElem?_cons_zero] at k5
      obtain ⟨d0, d1⟩ := bU2.c2
      have df := bU2.frozen 1
      gi_wp2
      have xb := (Ext.refl [b] U2).setCell (p := ⟨b, 1, none⟩) (.inl (by simp)) (.slice a0 (xs.filter fun x => x.p.fr != f || x.p.to != t).length m0)
      have bU3 := bU2.set 1 (.slice a0 (xs.filter fun x => x.p.fr != f || x.p.to != t).length m0)
      simp only [List.set_cons_zero, List.set_cons_succ] at bU3
      have gU3 := gU2.ext xb (by simpa using hcgb)
      have ho3 := own_ext ho2 xb (own_ne ho2 bU2 (by decide))
      have hK3 := xb.heap hK2 (by simp; omega)
      have hby3 : ∀ x ∈ xs, OIs S (U2.setCell ⟨b, 1, none⟩ (.slice a0 (xs.filter fun x => x.p.fr != f || x.p.to != t).length m0)) x.raw x.p := fun x hx => (hby x hx).keep xb (own_ne (hby x hx).2.2.2.2 bU2 (by decide))
      have hX3 := (hX2.mono (Y := [b, cg]) (by simp +contextual)).trans (xb.mono (by simp +contextual))
      generalize U2.setCell ⟨b, 1, none⟩ (.slice a0 (xs.filter fun x => x.p.fr != f || x.p.to != t).length m0) = U3 at *
      refine ⟨by simp, .inl ⟨_, _, rfl, run_takeDeferred hK3, ?_⟩⟩
      have hgr := grownBy_putObj' U3 D (.deferred none)
      have hrr : ∀ r, some D = some r → D ≤ r ∧ ∃ o : Obj, U3.heap[r]? = some o ∧ o.isCells = false := fun r e => by cases e; exact ⟨Nat.le_refl _, _, hK3, rfl⟩
      have bV : Blk (U3.putObj D (.deferred none)) b 25 _ := cells_grown bU3 hgr hrr
      have gV : Blk (U3.putObj D (.deferred none)) cg 3 _ := cells_grown gU3 hgr hrr
      have hoV := own_grown ho3 hgr hrr
      have hbyV : ∀ x ∈ xs, OIs S (U3.putObj D (.deferred none)) x.raw x.p := fun x hx => by
        obtain ⟨z1, z2, z3, z4, z5⟩ := hby3 x hx
        exact ⟨z1, z2, z3, z4, own_grown z5 hgr hrr⟩
      have hXV : Ext [b, cg, D] W (U3.putObj D (.deferred none)) := (hX3.mono (by intro k' _ hk'; simp at hk' ⊢; omega)).trans ((Ext.ofGrown hgr).mono (by intro k' _ hk'; simp at hk' ⊢; omega))
      have hkp : (xs.filter fun x => x.p.fr != f || x.p.to != t).map PX.p = l.filter (keepM f t) := by
        rw [← hxp, List.filter_map]; rfl
      have hkl : (xs.filter fun x => x.p.fr != f || x.p.to != t).length = (l.filter (keepM f t)).length := by rw [← hkp, List.length_map]
      have hos := OPs.sift hO hxp hxr (fun x => x.p.fr != f || x.p.to != t) (Nat.le_refl S) (by rw [List.length_map]; exact own_mono hoV (by omega)) hbyV
      rw [hkp] at hos
      refine ⟨.int .i64 0, by simp [results, Try.results66, go_sem], s, _, ⟨_, _, _, rfl⟩, rfl, bV, ⟨fun _ => ⟨rfl, _, hos⟩, ?_⟩, ⟨[b, cg, D], hXV, fun k hk => ?_⟩⟩
      · have e : ((xs.length : Int) - ((xs.filter fun x => x.p.fr != f || x.p.to != t).length : Int)) = ((l.length - (l.filter (keepM f t)).length : Nat) : Int) := by
          have h1 := HXL.out
          have h2 := HFL.out
          rw [hkl] at h2 ⊢
          rw [h1] at h2 ⊢
          omega
        rw [e] at gV
        exact gV
      · simp at hk
        rcases hk with rfl | rfl | rfl
        · exact .inl rfl
        · exact .inr (.inr (by simp))
        · exact .inr (.inl (by omega))
    case stop =>
      rintro D c pre U hD hpre hX hK
      exact hX.elim
theorem ChangedDrop {A cg : Nat} {w w' : World} {n : Nt} {T : Told} {e : Ending} (h : Changed w (right n) T.e [cg] (DDrop A cg T) e w') (hz : T.e ≠ 0 → T.n = zNt) (hg : Blk w cg 3 [.int .i64 0]) :
    ∃ v' rs', (∃ a' n' c', v' = .slice a' n' c') ∧ e = .returned (.tuple #[NV (ofM n T).n.s v', .int .i64 (ofM n T).e]) ∧ OPs A w' v' (ofM n T).n.ps rs' ∧ Blk w' cg 3 [.int .i64 ((ofM n T).gone : Int)] ∧ Ext [cg] w w' := by
  have hl := hg.lt
  unfold ofM
  cases hr : right n
  · rw [if_neg (by simp)]
    obtain ⟨rfl, x⟩ := h.1 hr
    exact ⟨.slice none 0 0, [], ⟨_, _, _, rfl⟩, rfl, OPs.nil _ _, hg.ext x (by simp), x.mono (by simp)⟩
  · rw [if_pos rfl]
    obtain ⟨w1, s1, v1, y, x, hs, hd, rfl⟩ := h.2 hr
    by_cases h0 : T.e = 0
    · rw [if_pos h0]
      obtain ⟨rfl, rs', ho⟩ := hd.1 h0
      exact ⟨v1, rs', hs, rfl, ho.nets y, y.blk hd.2 hl, y.old x⟩
    · rw [if_neg h0, hz h0]
      exact ⟨.slice none 0 0, [], ⟨_, _, _, rfl⟩, rfl, OPs.nil _ _, y.blk hd.2 hl, y.old x⟩
/-- the answer of Drop -/
def AnsD (w : World) (T : Told) : Ending → World → Prop := fun e w' => ∃ v' rs', (∃ a' n' c', v' = .slice a' n' c') ∧ e = .returned (.tuple #[NV T.n.s v', .int .i64 (T.gone : Int), .int .i64 T.e]) ∧ OPs w.heap.size w' v' T.n.ps rs' ∧ Ext [] w w'
set_option maxRecDepth 100000 in
set_option maxHeartbeats 4000000 in
theorem Drop_any (w : World) (s : Nat) (v : Value) (l : List Par) (f t : Int) (hP : Ps w v l) :
    Calls Try.prog 40 #[NV s v, .int .i64 f, .int .i64 t] w (AnsD w (ofM ⟨s, l⟩ (dropM ⟨s, l⟩ f t))) := by
  obtain ⟨a, c, rfl⟩ := hP.shape
  have e1 := (Ext.refl [] w).alloc (.cells #[.int .u64 (s : Int), .slice a l.length c] 25)
  have e2 := (Ext.refl [] (w.alloc (.cells #[.int .u64 (s : Int), .slice a l.length c] 25))).alloc (.cells #[.int .i64 f] 3)
  have e3 := (Ext.refl [] ((w.alloc (.cells #[.int .u64 (s : Int), .slice a l.length c] 25)).alloc (.cells #[.int .i64 f] 3))).alloc (.cells #[.int .i64 t] 3)
  have e4 := (Ext.refl [] (((w.alloc (.cells #[.int .u64 (s : Int), .slice a l.length c] 25)).alloc (.cells #[.int .i64 f] 3)).alloc (.cells #[.int .i64 t] 3))).alloc (.cells #[.int .u64 0, .slice none 0 0] 25)
  have e5 := (Ext.refl [] ((((w.alloc (.cells #[.int .u64 (s : Int), .slice a l.length c] 25)).alloc (.cells #[.int .i64 f] 3)).alloc (.cells #[.int .i64 t] 3)).alloc (.cells #[.int .u64 0, .slice none 0 0] 25))).alloc (.cells #[.int .i64 0] 3)
  have b1 := (Blk.new w [.int .u64 (s : Int), .slice a l.length c] 25).ext (((e2.trans e3).trans e4).trans e5) (by simp)
  have b2 := (Blk.new (w.alloc (.cells #[.int .u64 (s : Int), .slice a l.length c] 25)) [.int .i64 f] 3).ext ((e3.trans e4).trans e5) (by simp)
  have b3 := (Blk.new ((w.alloc (.cells #[.int .u64 (s : Int), .slice a l.length c] 25)).alloc (.cells #[.int .i64 f] 3)) [.int .i64 t] 3).ext (e4.trans e5) (by simp)
  have b4 := (Blk.new (((w.alloc (.cells #[.int .u64 (s : Int), .slice a l.length c] 25)).alloc (.cells #[.int .i64 f] 3)).alloc (.cells #[.int .i64 t] 3)) [.int .u64 0, .slice none 0 0] 25).ext e5 (by simp)
  have b5 := Blk.new ((((w.alloc (.cells #[.int .u64 (s : Int), .slice a l.length c] 25)).alloc (.cells #[.int .i64 f] 3)).alloc (.cells #[.int .i64 t] 3)).alloc (.cells #[.int .u64 0, .slice none 0 0] 25)) [.int .i64 0] 3
  have hE := (((e1.trans e2).trans e3).trans e4).trans e5
  simp only [World.size_alloc] at b2 b3 b4 b5
  have hP := hP.ext hE
  have hsz : (((((w.alloc (.cells #[.int .u64 (s : Int), .slice a l.length c] 25)).alloc (.cells #[.int .i64 f] 3)).alloc (.cells #[.int .i64 t] 3)).alloc (.cells #[.int .u64 0, .slice none 0 0] 25)).alloc (.cells #[.int .i64 0] 3)).heap.size = w.heap.size + 5 := by simp
  clear e1 e2 e3 e4 e5
  have ch := changed_Drop (((((w.alloc (.cells #[.int .u64 (s : Int), .slice a l.length c] 25)).alloc (.cells #[.int .i64 f] 3)).alloc (.cells #[.int .i64 t] 3)).alloc (.cells #[.int .u64 0, .slice none 0 0] 25)).alloc (.cells #[.int .i64 0] 3)) s _ l hP #[pt (w.heap.size + 1), pt (w.heap.size + 1 + 1), pt (w.heap.size + 1 + 1 + 1 + 1)] (dropM ⟨s, l⟩ f t).e [w.heap.size + 1 + 1 + 1 + 1] (by simp) (DDrop ((((((w.alloc (.cells #[.int .u64 (s : Int), .slice a l.length c] 25)).alloc (.cells #[.int .i64 f] 3)).alloc (.cells #[.int .i64 t] 3)).alloc (.cells #[.int .u64 0, .slice none 0 0] 25)).alloc (.cells #[.int .i64 0] 3)).heap.size + 2) (w.heap.size + 1 + 1 + 1 + 1) (dropM ⟨s, l⟩ f t)) (fun hr U vv rs x hb1 hb2 hO => by
      have hl2 := (right_len hr).2.1
      dsimp only at hl2
      exact drop1_any U (((((w.alloc (.cells #[.int .u64 (s : Int), .slice a l.length c] 25)).alloc (.cells #[.int .i64 f] 3)).alloc (.cells #[.int .i64 t] 3)).alloc (.cells #[.int .u64 0, .slice none 0 0] 25)).alloc (.cells #[.int .i64 0] 3)).heap.size ((((((w.alloc (.cells #[.int .u64 (s : Int), .slice a l.length c] 25)).alloc (.cells #[.int .i64 f] 3)).alloc (.cells #[.int .i64 t] 3)).alloc (.cells #[.int .u64 0, .slice none 0 0] 25)).alloc (.cells #[.int .i64 0] 3)).heap.size + 2) s (w.heap.size + 1) (w.heap.size + 1 + 1) (w.heap.size + 1 + 1 + 1 + 1) vv l rs f t hb1 hO (by omega) hb2 hl2 (b2.ext x (by simp)) (b3.ext x (by simp)) (b5.ext x (by simp)) (by omega))
  have hz : (dropM ⟨s, l⟩ f t).e ≠ 0 → (dropM ⟨s, l⟩ f t).n = zNt := by
    unfold dropM
    cases isWay f t
    · exact fun _ => rfl
    · exact fun h => absurd rfl h
  have ch := ch.mono fun e w' h => ChangedDrop h hz b5
  rw [hsz] at ch
  unfold AnsD
  generalize ofM ⟨s, l⟩ (dropM ⟨s, l⟩ f t) = T at *
  clear hz hP
  go_enter Try.func40, Try.ntmps40
  go_upto_region 2 with (fail)
  generalize (((((w.alloc (.cells #[.int .u64 (s : Int), .slice a l.length c] 25)).alloc (.cells #[.int .i64 f] 3)).alloc (.cells #[.int .i64 t] 3)).alloc (.cells #[.int .u64 0, .slice none 0 0] 25)).alloc (.cells #[.int .i64 0] 3)) = W at *
  generalize hwb : w.heap.size = wb at *
  have HWB := Lib.hid hwb
  clear hwb
  obtain ⟨n0, n1⟩ := b1.c2
  go_upto_region 3 with (go_at_call 50; (with_reducible refine ch.mono ?_); rintro e w1 ⟨v1, rs1, ⟨a1, n1, c1, rfl⟩, rfl, hO1, hB1, x1⟩; have b4 := b4.ext x1 (by simp))
  have e2 := (Ext.refl [] w1).alloc (.cells #[.int .u64 (T.n.s : Int), .slice a1 n1 c1] 25)
  have d2 := Blk.new w1 [.int .u64 (T.n.s : Int), .slice a1 n1 c1] 25
  have b4 := b4.ext e2 (by simp)
  have hB2 := hB1.ext e2 (by simp)
  have hO2 := hO1.ext e2
  generalize w1.alloc (.cells #[.int .u64 (T.n.s : Int), .slice a1 n1 c1] 25) = W2 at *
  obtain ⟨d0, d1⟩ := d2.c2
  have g0 := hB2.cell 0
  simp only [List.getElem?_cons_zero] at g0
  obtain ⟨r0, r1⟩ := b4.c2
  have rf := b4.frozen
  go_region
  have x3 := ((Ext.refl [wb + 1 + 1 + 1] W2).setCell (p := ⟨wb + 1 + 1 + 1, 0, none⟩) (.inl (by simp)) (.int .u64 (T.n.s : Int))).setCell (p := ⟨wb + 1 + 1 + 1, 1, none⟩) (.inl (by simp)) (.slice a1 n1 c1)
  have hB3 := (b4.set 0 (.int .u64 (T.n.s : Int))).set 1 (.slice a1 n1 c1)
  simp only [List.set_cons_zero, List.set_cons_succ] at hB3
  have hO3 := hO2.other b4 (by decide) (by decide) x3
  have hX3 := ((hE.trans' x1 (fun i hi => .inr (by have := HWB.out; simp at hi; omega))).trans e2).trans' x3 (fun i hi => .inr (by have := HWB.out; simp at hi; omega))
  have HH := Lib.hid (And.intro hB3 (And.intro hO3 hX3))
  clear hB3 hO3 hX3 x3 hO2 b4 d2 d0 d1 g0 r0 r1 rf
  go_wp2_with (fail)
  refine ret_cell_tmp2 Try.results40 rfl (Blk.drew HH.out.1) Try.underlying25 rfl net_info rfl ⟨_, rs1, ⟨_, _, _, rfl⟩, rfl, (HH.out.2.1.ext ((Ext.refl [] _).drew)).mono (by rw [HWB.out]; omega), HH.out.2.2.drew⟩
end Go.Proofs.Ytpdfmeaemlgniaa
