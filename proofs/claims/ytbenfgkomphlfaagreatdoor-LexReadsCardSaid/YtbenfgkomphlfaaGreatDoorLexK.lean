/-
  Tokens.
-/
import Derived.Test.YtbenfgkomphlfaaGreatDoorLexJ
namespace Go.Proofs.YtbenfgkomphlfaaGreatDoor
open Go.RowKit Go.Shelf
open Go.Lib hiding intOf
set_option linter.unusedVariables false
attribute [local go_sem] Oper.semAt_some

theorem TT : SliceTy Tryz.prog 23 29 4 40 (TV 0 0 E0 0) := .mk' Tryz.underlying23 (by kernel_rfl) rfl (by decide)

/-- what comes of Tokens -/
def TokEnd (w : World) (l : List UInt8) (e : Ending) (w' : World) : Prop :=
  ∃ v ob, e = .returned (.tuple #[v, .int .i64 (tokensP l), .int .i64 (tokensE l)]) ∧ Ts w' v ob (tokensL l) ∧ w.heap.size ≤ ob ∧ Ext [] w w'
theorem tokens_long (w : World) (s : ByteArray) (hs : 600 < s.size) : Calls Tryz.prog 6 #[.string s] w (TokEnd w (L s)) := by
  have h0 : (600 : Int) < (s.size : Int) := by omega
  have h1 : 600 < (L s).length := hs
  have e1 : tokensL (L s) = [] := by unfold tokensL; rw [if_pos h1]
  have e2 : tokensP (L s) = 0 := by unfold tokensP; rw [if_pos h1]
  have e3 : tokensE (L s) = 3 := by unfold tokensE; rw [if_pos h1]
  have H := Lib.hid (And.intro e1 (And.intro e2 e3))
  clear e1 e2 e3
  go_enter Tryz.func6, Tryz.ntmps6
  go_wp2
  refine bodyPost_ret (v := .tuple #[.slice none 0 0, .int .i64 0, .int .i64 3]) (by simp [results, Tryz.results6, go_sem]) rfl ?_
  exact ⟨_, w.heap.size, by rw [H.out.2.1, H.out.2.2], by rw [H.out.1]; exact Ts.nil _ _, Nat.le_refl _, (((Ext.refl [] w).alloc _).alloc _).alloc _⟩

/-- a round writes cells of its own function alone -/
theorem Spare.ofExt {X : List Nat} {n : Nat} {w w' : World} (h : Ext X w w') (hn : n ≤ w.heap.size) (hX : ∀ b ∈ X, n ≤ b ∧ ∃ cs t fr, w.heap[b]? = some (Obj.cells cs t fr) ∧ t ≠ 9) : Spare n w w' where
  below := ⟨h.os, h.tape, h.output, h.size, fun k hk => h.block k (by omega) (fun m => by have := (hX k m).1; omega)⟩
  walks := ⟨h.size, fun k o hk ho => (h.block k (size_heap hk) (fun m => by obtain ⟨_, cs, t, fr, hb, _⟩ := hX k m; rw [hk] at hb; cases hb; cases ho)).trans hk⟩
  strs b cs fr hb := (h.block b (size_heap hb) (fun m => by obtain ⟨_, cs', t, fr', hb', ht⟩ := hX b m; rw [hb] at hb'; cases hb'; exact ht rfl)).trans hb
theorem KeepsFrom.ofExt {X : List Nat} {B : Nat} {w w' : World} (h : Ext X w w') (hX : ∀ b ∈ X, ∃ cs t fr, w.heap[b]? = some (Obj.cells cs t fr)) : KeepsFrom B w w' :=
  ⟨h.size, fun k o _ hk ho => (h.block k (size_heap hk) (fun m => by obtain ⟨cs, t, fr, hb⟩ := hX k m; rw [hk] at hb; cases hb; cases ho)).trans hk⟩
theorem cells_grown {W W' : World} {row : Option Nat} {B b : Nat} {cs : Array Value} {t : TypeId} {fr : Nat × Nat} (hb : W.heap[b]? = some (.cells cs t fr)) (hg : W.grownBy W' row) (hr : ∀ r, row = some r → B ≤ r ∧ ∃ o : Obj, W.heap[r]? = some o ∧ o.isCells = false) : W'.heap[b]? = some (.cells cs t fr) := by
  refine (hg.block b (size_heap hb) (fun e => ?_)).trans hb
  obtain ⟨_, o, ho, hc⟩ := hr b e.symm
  rw [hb] at ho; cases ho; cases hc

theorem heap_same {w : World} {b : Nat} {v0 : Value} {t : TypeId} (h : w.heap[b]? = some (.cells #[v0] t (0, 0))) (v : Value) : (w.setCell ⟨b, 0, none⟩ v).heap[b]? = some (.cells #[v] t (0, 0)) := by
  have := set_cell_heap h 0 v
  simpa using this
theorem heap_other {w : World} {b c : Nat} {o : Obj} (h : w.heap[b]? = some o) (hc : c ≠ b) (i : Nat) (v : Value) : (w.setCell ⟨c, i, none⟩ v).heap[b]? = some o := by
  rw [Below.heap_setCell _ _ _ _ (Ne.symm hc)]; exact h
structure TokI (w : World) (pre : List (Tok × Bool)) (W : World) : Prop where
  c2 : W.heap[w.heap.size]? = some (.cells #[.slice none 0 0] 23 (0, 0))
  c3 : W.heap[w.heap.size + 1]? = some (.cells #[.int .i64 0] 3 (0, 0))
  c4 : W.heap[w.heap.size + 1 + 1]? = some (.cells #[.int .i64 0] 24 (0, 0))
  own : ∃ v l, pre = l.map (fun t => (t, true)) ∧ W.heap[w.heap.size + 1 + 1 + 1]? = some (.cells #[v] 23 (0, 0)) ∧ W.ownsRow (w.heap.size + 1 + 1 + 1 + 1) 29 4 v l.length (trows l)
  below : Below w.heap.size w W
theorem TokI.ownFrom (w : World) (B : Nat) (hB : w.heap.size ≤ B) : OwnFrom B (TokI w) := fun s W W' row hs hg hr => by
  obtain ⟨v, l, e, h5, ho⟩ := hs.own
  refine ⟨cells_grown hs.c2 hg hr, cells_grown hs.c3 hg hr, cells_grown hs.c4 hg hr, ⟨v, l, e, cells_grown h5 hg hr, ho.1, ?_⟩, ownFrom_below (β := Unit) (Nat.le_refl _) hB () W W' row hs.below hg hr⟩
  rcases ho.2 with h | ⟨g, cap, cur, rfl, h1, h2, h3⟩
  · exact .inl h
  · exact .inr ⟨g, cap, cur, rfl, h1, cells_grown h2 hg hr, h3⟩
/-- a round has told that the text is wrong -/
structure TokX (w : World) (pre : List (Tok × Bool)) (W : World) : Prop where
  c2 : W.heap[w.heap.size]? = some (.cells #[.slice none 0 0] 23 (0, 0))
  wrong : ∃ t l, pre = l ++ [(t, false)] ∧ W.heap[w.heap.size + 1]? = some (.cells #[.int .i64 t.a] 3 (0, 0))
  c4 : W.heap[w.heap.size + 1 + 1]? = some (.cells #[.int .i64 170] 24 (0, 0))
  below : Below w.heap.size w W
theorem TokX.ownFrom (w : World) (B : Nat) (hB : w.heap.size ≤ B) : OwnFrom B (TokX w) := fun s W W' row hs hg hr => by
  obtain ⟨t, l, e, h3⟩ := hs.wrong
  exact ⟨cells_grown hs.c2 hg hr, ⟨t, l, e, cells_grown h3 hg hr⟩, cells_grown hs.c4 hg hr, ownFrom_below (β := Unit) (Nat.le_refl _) hB () W W' row hs.below hg hr⟩

theorem es_good {p : List Tok × Option Tok} {l : List Tok} (h : es p = l.map (fun t => (t, true))) : p.2 = none ∧ p.1 = l := by
  obtain ⟨a, o⟩ := p
  cases o with
  | none =>
    refine ⟨rfl, ?_⟩
    simp only [es, Option.toList, List.map_nil, List.append_nil] at h
    have := congrArg (List.map Prod.fst) h
    simpa [List.map_map, Function.comp_def] using this
  | some t =>
    have : (t, false) ∈ l.map (fun t => (t, true)) := by rw [← h]; simp [es]
    simp at this
theorem es_stop {p : List Tok × Option Tok} {l : List (Tok × Bool)} {t : Tok} (h : l ++ [(t, false)] <+: es p) : p.2 = some t := by
  obtain ⟨a, o⟩ := p
  have : (t, false) ∈ es (a, o) := h.subset (by simp)
  cases o with
  | none => simp [es] at this
  | some u => simp [es] at this; rw [this]
set_option maxRecDepth 100000 in
set_option maxHeartbeats 4000000 in
theorem tokens_short (w : World) (s : ByteArray) (hG : Glob w) (hs : s.size ≤ 600) : Calls Tryz.prog 6 #[.string s] w (TokEnd w (L s)) := by
  refine (callsIn_wide (n := 8)).1 ?_
  refine callsIn_of_wp_marks Tryz.func6 rfl trivial ?_ rfl
  simp only [Tryz.ntmps6, List.size_toArray, List.length_cons, List.length_nil, Nat.reduceAdd, Nat.reduceSub, Array.replicate_succ, Array.replicate_zero, List.push_toArray, List.append_toArray, List.nil_append, List.cons_append]
  have f1 : Fence.wide.fn 13 := trivial
  have n1 : 1 ≤ 8 := by decide
  have hgt : ¬ ((600 : Int) < (s.size : Int)) := by omega
  gi_wp2_with (gi_at_call 13; refine (callsIn_wide.2 (told_any _ _)).mono ?_; rintro e w1 ⟨rfl, rfl⟩)
  generalize hwL : (((((w.alloc (Obj.cells #[Value.slice none 0 0] 23)).alloc (Obj.cells #[Value.int IntKind.i64 0] 3)).alloc (Obj.cells #[Value.int IntKind.i64 0] 24)).alloc (Obj.cells #[Value.slice none 0 0] 23)).alloc (Obj.cells #[Value.string s] 9)) = wL
  have hzL : wL.heap.size = w.heap.size + 1 + 1 + 1 + 1 + 1 := by rw [← hwL]; simp
  have hEL : Ext [] w wL := by rw [← hwL]; exact (((((Ext.refl [] w).alloc _).alloc _).alloc _).alloc _).alloc _
  have hT5 : wL.heap[w.heap.size + 1 + 1 + 1 + 1]? = some (.cells #[.string s] 9 (0, 0)) := by rw [← hwL]; (repeat' (first | exact hp_new' _ _ _ rfl | (refine hp_new' _ _ _ ?_; (simp; done)) | refine hp_alloc ?_))
  have hI0 : TokI w [] wL := by
    refine ⟨?_, ?_, ?_, ⟨.slice none 0 0, [], rfl, ?_, World.ownsRow_nil _ _ _ _⟩, hEL.below⟩
    all_goals (rw [← hwL]; (repeat' (first | exact hp_new' _ _ _ rfl | (refine hp_new' _ _ _ ?_; (simp; done)) | refine hp_alloc ?_)))
  clear hwL
  have hz2 : w.heap.size ≤ wL.heap.size := by omega
  refine wpIn_rangeFunc_ownH rfl n1 (gf := 26) (lb := #[.pointer (some ⟨w.heap.size + 1 + 1 + 1 + 1, 0, none⟩)]) rfl trivial (enters_of Tryz.func26 (by kernel_rfl) rfl)
    (told_in 7 (by decide) w wL hG hEL _ s hs hT5) (fun h k => h.trans k) (fun W l o o' hl ho hc hw => Spare.putObj W l o o' (Nat.le_trans hz2 hl) ho hc hw) (Below.refl _ _) (fun _ => rfl)
    (TokI w) (fun c pre W => c = .ret ∧ TokX w pre W) (TokI.ownFrom w _ hz2) (fun c s' A B' row hs' hg hr => ⟨hs'.1, TokX.ownFrom w _ hz2 s' A B' row hs'.2 hg hr⟩) hI0
    (fun x a' W => ∃ Bx, TB W Bx x.1.k x.1.a x.1.s x.1.n ∧ a' = { tmps := #[.string s, undef, .pointer (some ⟨w.heap.size, 0, none⟩), .pointer (some ⟨w.heap.size + 1, 0, none⟩), .pointer (some ⟨w.heap.size + 1 + 1, 0, none⟩), .pointer (some ⟨w.heap.size + 1 + 1 + 1, 0, none⟩), .pointer (some ⟨Bx, 0, none⟩), .bool x.2, .string s, .int .i64 s.size, .bool false, .string s, .func (.func 26) #[] #[.pointer (some ⟨w.heap.size + 1 + 1 + 1 + 1, 0, none⟩)], x.1.v, .bool x.2, undef, undef, undef, undef, undef, undef, undef, undef, undef], defers := [] })
    (fun x a' s' A B' row hs' hg hr => by obtain ⟨Bx, h1, h2⟩ := hs'; exact ⟨Bx, cells_grown h1 hg hr, h2⟩) ?assign ?body ?done ?stop
  case assign =>
    rintro l pre ⟨⟨xk, xa, xs, xn⟩, b⟩ W K hi hK
    simp only [enc2, Tok.v] at *
    gi_wp2
    have hE : Ext [] W (W.alloc (.cells #[.int .i64 xk, .int .i64 xa, .string xs, .int .u64 xn] 29)) := (Ext.refl [] W).alloc _
    exact hK _ _ (KeepsFrom.ofExt hE (by simp)) (Spare.ofExt hE hi.below.size (by simp)) ((TokI.ownFrom w _ hz2).alloc _ hi) ⟨_, TB.new _ _ _ _ _, rfl⟩
  case body =>
    rintro l pre x a' W hl ⟨r, hr⟩ hI ⟨Bx, hT, rfl⟩ hlt
    obtain ⟨t0, t1, t2, t3⟩ := hT.c4
    have hz3 : w.heap.size + 1 + 1 + 1 < W.heap.size := by obtain ⟨v, l, -, h5, -⟩ := hI.own; exact size_heap h5
    obtain ⟨⟨xk, xa, xs, xn⟩, b⟩ := x
    dsimp only [Tok.v] at *
    cases b
    · have c2 := cell_of_heap hI.c2 0
      have c3 := cell_of_heap hI.c3 0
      have c4 := cell_of_heap hI.c4 0
      have g2 := frozen_of_heap hI.c2 0
      have g3 := frozen_of_heap hI.c3 0
      have g4 := frozen_of_heap hI.c4 0
      gi_wp2
      gi_region
      all_goals gi_wp2
      all_goals
        refine ⟨KeepsFrom.ofExt (X := [w.heap.size, w.heap.size + 1, w.heap.size + 1 + 1]) ((((Ext.refl _ W).setCell (by simp) _).setCell (by simp) _).setCell (by simp) _).drew ?_, rfl, ?_⟩
        · intro b hb
          simp only [List.mem_cons, List.mem_nil_iff, or_false] at hb
          rcases hb with rfl | rfl | rfl
          · exact ⟨_, _, _, hI.c2⟩
          · exact ⟨_, _, _, hI.c3⟩
          · exact ⟨_, _, _, hI.c4⟩
        · have a2 := heap_same hI.c2 (.slice none 0 0)
          have a3 := heap_same (heap_other hI.c3 (show w.heap.size ≠ w.heap.size + 1 by omega) 0 (.slice none 0 0)) (.int .i64 xa)
          have a4 := heap_same (heap_other (heap_other hI.c4 (show w.heap.size ≠ w.heap.size + 1 + 1 by omega) 0 (.slice none 0 0)) (show w.heap.size + 1 ≠ w.heap.size + 1 + 1 by omega) 0 (.int .i64 xa)) (.int .i64 170)
          exact ⟨heap_other (heap_other a2 (by omega) 0 _) (by omega) 0 _, ⟨_, pre, rfl, heap_other a3 (by omega) 0 _⟩, a4, (((hI.below.setCell (p := ⟨w.heap.size, 0, none⟩) (Nat.le_refl _) _).setCell (p := ⟨w.heap.size + 1, 0, none⟩) (by simp) _).setCell (p := ⟨w.heap.size + 1 + 1, 0, none⟩) (by simp; omega) _).drew⟩
    · obtain ⟨v, ll, hpre, h5, ho⟩ := hI.own
      have c5 := cell_of_heap h5 0
      have g5 := frozen_of_heap h5 0
      obtain ⟨i0, i1, i2, i3, i4⟩ := TT.info
      have hll : ll.length ≤ 600 := by
        have := es_length (L s) 0 0
        rw [hpre, List.length_map] at hlt
        rw [← size_L] at this
        omega
      have hn0 := Blk.new W [.int .i64 xk, .int .i64 xa, .string xs, .int .u64 xn] 29
      gi_wp2_with (gi_at_builtin; refine wpListIn_append_own _ rfl _ _ 23 rfl (w.heap.size + 1 + 1 + 1 + 1) 29 i0 (TV 0 0 E0 0) 4 40 TT.und i1 i2 i3 i4 rfl (by decide) v ll.length (trows ll) rfl (ho.alloc _) ⟨W.heap.size, 0, none⟩ 1 1 [.int .i64 xk, .int .i64 xa, .string xs, .int .u64 xn] rfl rfl (fun j u hu => by rw [add_off, Nat.zero_add]; exact (hn0.cell j).trans hu) (by intro u hu; simp at hu; rcases hu with rfl | rfl | rfl | rfl <;> rfl) (by unfold maxLen; omega) (by omega) (by simp; omega) ?_; intro v' w1 hown' hgrow _; obtain ⟨g', cap', rfl⟩ := ownsRow_succ hown'; have h5' := (Ext.ofGrown hgrow).heap (hp_alloc h5) (fun m => by have := own_ge ho _ m; omega); have c5' := cell_of_heap h5' 0; have g5' := frozen_of_heap h5' 0)
      have hX : Ext (v.ownBlock.toList ++ [w.heap.size + 1 + 1 + 1]) W (w1.setCell ⟨w.heap.size + 1 + 1 + 1, 0, none⟩ (.slice (some ⟨g', 0, none⟩) (ll.length + 1) cap')) :=
        (((Ext.refl _ W).alloc _).trans ((Ext.ofGrown hgrow).mono (fun k _ hk => List.mem_append.2 (.inl hk)))).setCell (.inl (by simp)) _
      have hXc : ∀ b ∈ v.ownBlock.toList ++ [w.heap.size + 1 + 1 + 1], w.heap.size ≤ b ∧ ∃ cs t fr, W.heap[b]? = some (Obj.cells cs t fr) ∧ t ≠ 9 := by
        intro b hb
        rcases List.mem_append.1 hb with hb | hb
        · rcases ho.2 with ⟨rfl, _⟩ | ⟨g, cap, cur, rfl, h1, h2, _⟩
          · simp [Value.ownBlock] at hb
          · obtain rfl : b = g := by simpa [Value.ownBlock] using hb
            exact ⟨by omega, _, _, _, h2, by decide⟩
        · obtain rfl : b = w.heap.size + 1 + 1 + 1 := by simpa using hb
          exact ⟨by omega, _, _, _, h5, by decide⟩
      have hXn : ∀ k, k < w.heap.size + 1 + 1 + 1 → k ∉ v.ownBlock.toList ++ [w.heap.size + 1 + 1 + 1] := by
        intro k hk hm
        rcases List.mem_append.1 hm with hm | hm
        · have := own_ge ho k hm; omega
        · have : k = w.heap.size + 1 + 1 + 1 := by simpa using hm
          omega
      have hS := Spare.ofExt hX hI.below.size hXc
      refine ⟨KeepsFrom.ofExt hX (fun b hb => by obtain ⟨-, cs, t, fr, h, -⟩ := hXc b hb; exact ⟨cs, t, fr, h⟩), hS, ⟨hX.heap hI.c2 (hXn _ (by omega)), hX.heap hI.c3 (hXn _ (by omega)), hX.heap hI.c4 (hXn _ (by omega)), ⟨_, ll ++ [⟨xk, xa, xs, xn⟩], by rw [hpre]; simp, heap_same h5' _, ?_⟩, hI.below.trans hS.below⟩⟩
      have := own_ext (X := [w.heap.size + 1 + 1 + 1]) hown' ((Ext.refl _ w1).setCell (p := ⟨w.heap.size + 1 + 1 + 1, 0, none⟩) (.inl (by simp)) (.slice (some ⟨g', 0, none⟩) (ll.length + 1) cap')) (fun k hk hm => by
        have := (hown'.lt k hk).1
        obtain rfl : k = w.heap.size + 1 + 1 + 1 := by simpa using hm
        omega)
      simpa [trows_append, trows, Tok.row] using this
  case done =>
    rintro D xs W hD hxs hI hK
    obtain ⟨v, ll, hpre, h5, ho⟩ := hI.own
    obtain ⟨e1, e2⟩ := es_good (hxs.symm.trans hpre)
    have hlen : ¬ 600 < (L s).length := by rw [← size_L]; omega
    have q1 : tokensL (L s) = ll := by unfold tokensL; rw [if_neg hlen, e1, e2]
    have q2 : tokensP (L s) = 0 := by unfold tokensP; rw [if_neg hlen, e1]
    have q3 : tokensE (L s) = 0 := by unfold tokensE; rw [if_neg hlen, e1]
    have H := Lib.hid (And.intro q1 (And.intro q2 q3))
    clear q1 q2 q3 e1 e2 hxs hpre
    have c5 := cell_of_heap h5 0
    have c2 := cell_of_heap hI.c2 0
    have c3 := cell_of_heap hI.c3 0
    have c4 := cell_of_heap hI.c4 0
    have g2 := frozen_of_heap hI.c2 0
    have g3 := frozen_of_heap hI.c3 0
    have g4 := frozen_of_heap hI.c4 0
    obtain ⟨ob0, hsl, -⟩ := Sl.of_own ho
    obtain ⟨a5, cap5, rfl⟩ := Ts.shape (show Ts W v ob0 ll from hsl)
    clear hsl
    gi_wp2
    have hDz : wL.heap.size ≤ D := hD
    have a2 := heap_same hI.c2 (.slice a5 ll.length cap5)
    have a3 := heap_same (heap_other hI.c3 (show w.heap.size ≠ w.heap.size + 1 by omega) 0 (.slice a5 ll.length cap5)) (.int .i64 0)
    have a4 := heap_same (heap_other (heap_other hI.c4 (show w.heap.size ≠ w.heap.size + 1 + 1 by omega) 0 (.slice a5 ll.length cap5)) (show w.heap.size + 1 ≠ w.heap.size + 1 + 1 by omega) 0 (.int .i64 0)) (.int .i64 0)
    have a2' := heap_other (heap_other a2 (show w.heap.size + 1 ≠ w.heap.size by omega) 0 (.int .i64 0)) (show w.heap.size + 1 + 1 ≠ w.heap.size by omega) 0 (.int .i64 0)
    have a3' := heap_other a3 (show w.heap.size + 1 + 1 ≠ w.heap.size + 1 by omega) 0 (.int .i64 0)
    have hK' := heap_other (heap_other (heap_other hK (show w.heap.size ≠ D by omega) 0 (.slice a5 ll.length cap5)) (show w.heap.size + 1 ≠ D by omega) 0 (.int .i64 0)) (show w.heap.size + 1 + 1 ≠ D by omega) 0 (.int .i64 0)
    have hX : Ext [w.heap.size, w.heap.size + 1, w.heap.size + 1 + 1] W (((W.setCell ⟨w.heap.size, 0, none⟩ (.slice a5 ll.length cap5)).setCell ⟨w.heap.size + 1, 0, none⟩ (.int .i64 0)).setCell ⟨w.heap.size + 1 + 1, 0, none⟩ (.int .i64 0)) := (((Ext.refl _ W).setCell (by simp) _).setCell (by simp) _).setCell (by simp) _
    have hB := ((hI.below.setCell (p := ⟨w.heap.size, 0, none⟩) (Nat.le_refl _) (.slice a5 ll.length cap5)).setCell (p := ⟨w.heap.size + 1, 0, none⟩) (by simp) (.int .i64 0)).setCell (p := ⟨w.heap.size + 1 + 1, 0, none⟩) (by simp; omega) (.int .i64 0)
    generalize ((W.setCell ⟨w.heap.size, 0, none⟩ (.slice a5 ll.length cap5)).setCell ⟨w.heap.size + 1, 0, none⟩ (.int .i64 0)).setCell ⟨w.heap.size + 1 + 1, 0, none⟩ (.int .i64 0) = V at *
    have ho' := own_ext ho hX (fun k hk hm => by have := (ho.lt k hk).1; simp at hm; omega)
    have ho2 : (V.putObj D (.deferred none)).ownsRow (w.heap.size + 1 + 1 + 1 + 1) 29 4 (.slice a5 ll.length cap5) ll.length (trows ll) := by
      refine ⟨ho'.1, ?_⟩
      rcases ho'.2 with h | ⟨g, cap, cur, e, h1, h2, h3⟩
      · exact .inl h
      · exact .inr ⟨g, cap, cur, e, h1, (World.putObj_heap_other (by rintro rfl; rw [hK'] at h2; cases h2)).trans h2, h3⟩
    have b2 := cell_of_heap ((World.putObj_heap_other (o := .deferred none) (show w.heap.size ≠ D by omega)).trans a2') 0
    have b3 := cell_of_heap ((World.putObj_heap_other (o := .deferred none) (show w.heap.size + 1 ≠ D by omega)).trans a3') 0
    have b4 := cell_of_heap ((World.putObj_heap_other (o := .deferred none) (show w.heap.size + 1 + 1 ≠ D by omega)).trans a4) 0
    refine ⟨by simp, .inl ⟨_, _, rfl, run_takeDeferred hK', ?_⟩⟩
    refine ⟨.tuple #[.slice a5 ll.length cap5, .int .i64 0, .int .i64 0], ?_, ?_⟩
    · simp [results, Tryz.results6, go_sem, b2, b3, b4]
    · obtain ⟨ob, hsl, hob⟩ := Sl.of_own ho2
      have hbel : Below w.heap.size w (V.putObj D (.deferred none)) := hB.trans (belowK_b (w := w) (Nat.le_refl _) V D _ _ (by omega) hK' rfl rfl)
      rcases hob with h | ⟨h, _⟩
      · refine ⟨_, w.heap.size, by rw [H.out.2.1, H.out.2.2], ?_, Nat.le_refl _, Ext.ofBelow hbel⟩
        rw [H.out.1]
        simp only [Value.slice.injEq] at h
        obtain rfl : ll = [] := List.eq_nil_of_length_eq_zero h.2.1
        rw [h.1, h.2.2]
        exact Ts.nil _ _
      · exact ⟨_, ob, by rw [H.out.2.1, H.out.2.2], by rw [H.out.1]; exact hsl, by omega, Ext.ofBelow hbel⟩
  case stop =>
    rintro D c pre W hD hpre ⟨rfl, hX⟩ hK
    obtain ⟨t, l0, hl0, h3⟩ := hX.wrong
    have e1 := es_stop (by rw [← hl0]; exact hpre.2)
    have hlen : ¬ 600 < (L s).length := by rw [← size_L]; omega
    have q1 : tokensL (L s) = [] := by unfold tokensL; rw [if_neg hlen, e1]
    have q2 : tokensP (L s) = t.a := by unfold tokensP; rw [if_neg hlen, e1]
    have q3 : tokensE (L s) = 170 := by unfold tokensE; rw [if_neg hlen, e1]
    gi_wp2
    have b2 := cell_of_heap ((World.putObj_heap_other (o := .deferred none) (show w.heap.size ≠ D by omega)).trans hX.c2) 0
    have b3 := cell_of_heap ((World.putObj_heap_other (o := .deferred none) (show w.heap.size + 1 ≠ D by omega)).trans h3) 0
    have b4 := cell_of_heap ((World.putObj_heap_other (o := .deferred none) (show w.heap.size + 1 + 1 ≠ D by omega)).trans hX.c4) 0
    refine ⟨by simp, .inl ⟨_, _, rfl, run_takeDeferred hK, ?_⟩⟩
    refine ⟨.tuple #[.slice none 0 0, .int .i64 t.a, .int .i64 170], ?_, ?_⟩
    · simp [results, Tryz.results6, go_sem, b2, b3, b4]
    · have hbel : Below w.heap.size w (W.putObj D (.deferred none)) := hX.below.trans (belowK_b (w := w) (Nat.le_refl _) W D _ _ (by omega) hK rfl rfl)
      exact ⟨_, w.heap.size, by rw [q2, q3], by rw [q1]; exact Ts.nil _ _, Nat.le_refl _, Ext.ofBelow hbel⟩
theorem Tokens_any (w : World) (s : ByteArray) (hG : Glob w) : Calls Tryz.prog 6 #[.string s] w (TokEnd w (L s)) := by
  by_cases hs : s.size ≤ 600
  · exact tokens_short w s hG hs
  · exact tokens_long w s (by omega)
end Go.Proofs.YtbenfgkomphlfaaGreatDoor
