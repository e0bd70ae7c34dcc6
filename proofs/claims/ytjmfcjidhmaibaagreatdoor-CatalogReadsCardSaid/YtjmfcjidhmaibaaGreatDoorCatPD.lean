
/-
  Parse.
-/
import Derived.Test.YtjmfcjidhmaibaaGreatDoorCatPB
import Derived.Test.YtjmfcjidhmaibaaGreatDoorCatPC
namespace Go.Proofs.YtjmfcjidhmaibaaGreatDoor
open Go.RowKit Go.Shelf
open Go.Lib hiding intOf
set_option linter.unusedVariables false
attribute [local go_sem] Oper.semAt_some

/-- what comes of Parse -/
def ParseEnd (w : World) (l : List UInt8) (e : Ending) (w' : World) : Prop :=
  ∃ v, e = .returned (.tuple #[KV v, .int .i64 (parseL l).2.1, .int .i64 (parseL l).2.2]) ∧ TsX [] w' v (parseL l).1 ∧ Ext [] w w'
theorem parse_long (w : World) (s : ByteArray) (hs : 1000 < s.size) : Calls Tryz.prog 10 #[.string s] w (ParseEnd w (L s)) := by
  have h0 : (1000 : Int) < (s.size : Int) := by omega
  have h1 : 1000 < (L s).length := hs
  have H : Hid (parseL (L s) = ([], 0, 3)) := by show _ = _; unfold parseL; rw [if_pos h1]
  go_enter Tryz.func10, Tryz.ntmps10
  go_wp2
  have hb := Blk.new w [.slice none 0 0] 24
  refine bodyPost_ret (v := .tuple #[.agg #[.slice none 0 0], .int .i64 0, .int .i64 3]) (by simp [results, Tryz.results10, go_sem]) rfl ?_
  exact ⟨.slice none 0 0, by rw [H.out]; rfl, by rw [H.out]; exact TsX.nil (w := w) (by simp) _, (((Ext.refl [] w).alloc _).alloc _).alloc _⟩
/-! ## what is read reads as it did where an object that is no cells has changed -/
def Slides (W W' : World) (row : Option Nat) : Prop := W.grownBy W' row ∧ ∀ r, row = some r → ∃ o : Obj, W.heap[r]? = some o ∧ o.isCells = false
theorem Sl.slid {W W' : World} {row : Option Nat} {v : Value} {ob size n : Nat} {xs : List Value} (h : Sl W v ob size n xs) (g : Slides W W' row) : Sl W' v ob size n xs := by
  refine ⟨h.1, ?_⟩
  rcases h.2 with h2 | ⟨off, sp, cap, rfl, h1, h2, hsp, h3⟩
  · exact .inl h2
  · refine .inr ⟨off, sp, cap, rfl, h1, h2, hsp, fun j u hu => ?_⟩
    have hc := h3 j u hu
    have hlt := World.block_lt_of_cell? _ _ hc
    have hb : W'.heap[ob]? = W.heap[ob]? := g.1.block ob hlt (fun e => by
      obtain ⟨o, ho, hn⟩ := g.2 ob e.symm
      simp only [World.cell?, ho] at hc
      cases o <;> simp_all [Obj.isCells])
    rw [World.cell?_of_block (w := W) (a := ⟨ob, off + j, none⟩) hb]
    exact hc
theorem TsX.slid {X : List Nat} {W W' : World} {row : Option Nat} {v : Value} {l : List Tab} (h : TsX X W v l) (g : Slides W W' row) : TsX X W' v l := by
  obtain ⟨ob, rs, h0, h1, h2⟩ := h
  refine ⟨ob, rs, h0, Sl.slid h1 g, h2.1, fun k r t hr ht => ?_⟩
  obtain ⟨a1, ⟨oc, b1, b2⟩, ok, c1, c2⟩ := h2.2 k r t hr ht
  exact ⟨a1, ⟨oc, b1, Sl.slid b2 g⟩, ok, c1, Sl.slid c2 g⟩
/-- what Parse keeps between two lines -/
structure ParI (w : World) (pre : List Ln) (W : World) : Prop where
  c2 : W.heap[w.heap.size]? = some (.cells #[.slice none 0 0] 24 (0, 0))
  c3 : W.heap[w.heap.size + 1]? = some (.cells #[.int .i64 0] 3 (0, 0))
  c4 : W.heap[w.heap.size + 1 + 1]? = some (.cells #[.int .i64 0] 27 (0, 0))
  own : ∃ a m C, W.heap[w.heap.size + 1 + 1 + 1]? = some (.cells #[.slice a C.length m] 24 (0, 0)) ∧ TsX [w.heap.size, w.heap.size + 1, w.heap.size + 1 + 1, w.heap.size + 1 + 1 + 1] W (.slice a C.length m) C ∧ isCat C = true ∧ ∀ rest, parseM [] (pre.map Subtype.val ++ rest) = parseM C rest
  below : Below w.heap.size w W
theorem ParI.ownFrom (w : World) (B : Nat) (hB : w.heap.size ≤ B) : OwnFrom B (ParI w) := fun s W W' row hs hg hr => by
  obtain ⟨a, m, C, h5, ht, hi, hp⟩ := hs.own
  exact ⟨cells_grown hs.c2 hg hr, cells_grown hs.c3 hg hr, cells_grown hs.c4 hg hr, ⟨a, m, C, cells_grown h5 hg hr, ht.slid ⟨hg, fun r e => (hr r e).2⟩, hi, hp⟩, ownFrom_below (β := Unit) (Nat.le_refl _) hB () W W' row hs.below hg hr⟩
/-- a line was wrong -/
structure ParX (w : World) (pre : List Ln) (W : World) : Prop where
  c2 : W.heap[w.heap.size]? = some (.cells #[.slice none 0 0] 24 (0, 0))
  wrong : ∃ p : Nat, W.heap[w.heap.size + 1]? = some (.cells #[.int .i64 p] 3 (0, 0)) ∧ ∀ rest, parseM [] (pre.map Subtype.val ++ rest) = ([], p, 212)
  c4 : W.heap[w.heap.size + 1 + 1]? = some (.cells #[.int .i64 212] 27 (0, 0))
  below : Below w.heap.size w W
theorem ParX.ownFrom (w : World) (B : Nat) (hB : w.heap.size ≤ B) : OwnFrom B (ParX w) := fun s W W' row hs hg hr => by
  obtain ⟨p, h3, hp⟩ := hs.wrong
  exact ⟨cells_grown hs.c2 hg hr, ⟨p, cells_grown h3 hg hr, hp⟩, cells_grown hs.c4 hg hr, ownFrom_below (β := Unit) (Nat.le_refl _) hB () W W' row hs.below hg hr⟩
theorem keysW_len {cs : List Col} : ∀ {b : List W8} {ks : List Int}, keysW cs b = some ks → ks.length = b.length
  | [], ks, h => by
    obtain rfl : ks = [] := by simpa [keysW] using h.symm
    rfl
  | w :: r, ks, h => by
    rw [keysW] at h
    split at h
    · rw [Option.map_eq_some_iff] at h
      obtain ⟨ls, h1, rfl⟩ := h
      simp [keysW_len h1]
    · cases h
theorem tabL_len {l : List UInt8} {t : Tab} (h : tabL l = some t) : t.cols.length ≤ l.length + 1 ∧ t.keys.length ≤ l.length + 1 := by
  unfold tabL at h
  split at h
  · have h1 := (cutW_spec (wds l.dropLast)).1
    have h2 := wds_len l.dropLast
    have h3 := congrArg List.length h1
    rw [List.length_append] at h3
    have h4 : l.dropLast.length ≤ l.length := by simp
    have hb : (cutW (wds l.dropLast)).2.1.length ≤ (if (cutW (wds l.dropLast)).2.2 then wBy :: (cutW (wds l.dropLast)).2.1 else []).length := by
      split
      · simp
      · rename_i hf
        by_cases he : (cutW (wds l.dropLast)).2.1 = []
        · simp [he]
        · exact absurd ((cutW_spec (wds l.dropLast)).2.2 he) hf
    generalize cutW (wds l.dropLast) = P at *
    obtain ⟨a, b, f⟩ := P
    dsimp only at hb h3 h
    rcases a with _ | ⟨tt, _ | ⟨n, r⟩⟩
    · simp [tabW] at h
    · simp [tabW] at h
    · simp only [tabW] at h
      split at h
      · rw [Option.map_eq_some_iff] at h
        obtain ⟨ks, hk, rfl⟩ := h
        dsimp only
        rw [colsW_length, keysW_len hk]
        simp only [List.length_cons] at h3
        omega
      · cases h
  · cases h
/-- the end of a round at a line that is wrong -/
theorem par_wrong {w W V : World} {pre pre' : List Ln} {B p : Nat} (hI : ParI w pre W) (hV : Ext [] W V) (hp : ∀ rest, parseM [] (pre'.map Subtype.val ++ rest) = ([], p, 212)) :
    KeepsFrom B W (((V.setCell ⟨w.heap.size, 0, none⟩ (.slice none 0 0)).setCell ⟨w.heap.size + 1, 0, none⟩ (.int .i64 p)).setCell ⟨w.heap.size + 1 + 1, 0, none⟩ (.int .i64 212)) ∧
    ParX w pre' (((V.setCell ⟨w.heap.size, 0, none⟩ (.slice none 0 0)).setCell ⟨w.heap.size + 1, 0, none⟩ (.int .i64 p)).setCell ⟨w.heap.size + 1 + 1, 0, none⟩ (.int .i64 212)) := by
  have hX : Ext [w.heap.size, w.heap.size + 1, w.heap.size + 1 + 1] W (((V.setCell ⟨w.heap.size, 0, none⟩ (.slice none 0 0)).setCell ⟨w.heap.size + 1, 0, none⟩ (.int .i64 p)).setCell ⟨w.heap.size + 1 + 1, 0, none⟩ (.int .i64 212)) :=
    ((((hV.mono (by simp)).setCell (.inl (by simp)) _).setCell (.inl (by simp)) _).setCell (.inl (by simp)) _)
  refine ⟨KeepsFrom.ofExt hX fun b hb => ?_, ?_⟩
  · simp only [List.mem_cons, List.mem_nil_iff, or_false] at hb
    rcases hb with rfl | rfl | rfl
    · exact ⟨_, _, _, hI.c2⟩
    · exact ⟨_, _, _, hI.c3⟩
    · exact ⟨_, _, _, hI.c4⟩
  · have a2 := heap_same (hV.heap hI.c2 (by simp)) (.slice none 0 0)
    have a3 := heap_same (heap_other (hV.heap hI.c3 (by simp)) (show w.heap.size ≠ w.heap.size + 1 by omega) 0 (.slice none 0 0)) (.int .i64 p)
    have a4 := heap_same (heap_other (heap_other (hV.heap hI.c4 (by simp)) (show w.heap.size ≠ w.heap.size + 1 + 1 by omega) 0 (.slice none 0 0)) (show w.heap.size + 1 ≠ w.heap.size + 1 + 1 by omega) 0 (.int .i64 p)) (.int .i64 212)
    exact ⟨heap_other (heap_other a2 (by omega) 0 _) (by omega) 0 _, ⟨p, heap_other a3 (by omega) 0 _, hp⟩, a4, ((Ext.ofBelow hI.below).trans' hX (fun i hi => .inr (by simp at hi; omega))).below⟩
abbrev parA (w : World) (s : ByteArray) (x : Ln) : Act := { tmps := #[.string s, undef, .pointer (some ⟨w.heap.size, 0, none⟩), .pointer (some ⟨w.heap.size + 1, 0, none⟩), .pointer (some ⟨w.heap.size + 1 + 1, 0, none⟩), .pointer (some ⟨w.heap.size + 1 + 1 + 1, 0, none⟩), .int .i64 x.1.1, .string (B x.1.2), undef, undef, undef, undef, .string s, .int .i64 s.size, .bool false, undef, .string s, .func (.func 41) #[] #[.pointer (some ⟨w.heap.size + 1 + 1 + 1 + 1, 0, none⟩)], .int .i64 x.1.1, .string (B x.1.2), undef, undef, undef, undef, undef, undef, undef, undef, undef, undef, undef, undef, undef, undef, undef, undef, undef, undef, undef, undef, undef], defers := [] }
set_option maxRecDepth 100000 in
set_option maxHeartbeats 4000000 in
theorem parse_short (w : World) (s : ByteArray) (hG : Glob w) (hs : s.size ≤ 1000) : Calls Tryz.prog 10 #[.string s] w (ParseEnd w (L s)) := by
  refine (callsIn_wide (n := 8)).1 ?_
  refine callsIn_of_wp_marks Tryz.func10 rfl trivial ?_ rfl
  simp only [Tryz.ntmps10, List.size_toArray, List.length_cons, List.length_nil, Nat.reduceAdd, Nat.reduceSub, Array.replicate_succ, Array.replicate_zero, List.push_toArray, List.append_toArray, List.nil_append, List.cons_append]
  have f1 : Fence.wide.fn 23 := trivial
  have n1 : 1 ≤ 8 := by decide
  have hgt : ¬ ((1000 : Int) < (s.size : Int)) := by omega
  gi_wp2_with (gi_at_call 23; refine (callsIn_wide.2 (lines_any _ _)).mono ?_; rintro e w1 ⟨rfl, rfl⟩)
  generalize hwL : (((((w.alloc (Obj.cells #[Value.slice none 0 0] 24)).alloc (Obj.cells #[Value.int IntKind.i64 0] 3)).alloc (Obj.cells #[Value.int IntKind.i64 0] 27)).alloc (Obj.cells #[Value.slice none 0 0] 24)).alloc (Obj.cells #[Value.string s] 9)) = wL
  have hzL : wL.heap.size = w.heap.size + 1 + 1 + 1 + 1 + 1 := by rw [← hwL]; simp
  have hEL : Ext [] w wL := by rw [← hwL]; exact (((((Ext.refl [] w).alloc _).alloc _).alloc _).alloc _).alloc _
  have hT5 : wL.heap[w.heap.size + 1 + 1 + 1 + 1]? = some (.cells #[.string s] 9 (0, 0)) := by rw [← hwL]; (repeat' (first | exact hp_new' _ _ _ rfl | (refine hp_new' _ _ _ ?_; (simp; done)) | refine hp_alloc ?_))
  have hI0 : ParI w [] wL := by
    refine ⟨?_, ?_, ?_, ⟨none, 0, [], ?_, TsX.nil (fun i hi => by rw [hzL]; simp at hi; omega) _, by decide +kernel, fun rest => rfl⟩, hEL.below⟩
    all_goals (rw [← hwL]; (repeat' (first | exact hp_new' _ _ _ rfl | (refine hp_new' _ _ _ ?_; (simp; done)) | refine hp_alloc ?_)))
  clear hwL
  have hz2 : w.heap.size ≤ wL.heap.size := by omega
  refine wpIn_rangeFunc_ownH rfl n1 (gf := 41) (lb := #[.pointer (some ⟨w.heap.size + 1 + 1 + 1 + 1, 0, none⟩)]) rfl trivial (enters_of Tryz.func41 (by kernel_rfl) rfl)
    (lines_in 7 (by decide) w wL hG hEL _ s hs hT5) (fun h k => h.trans k) (fun W l o o' hl ho hc hw => Spare.putObj W l o o' (Nat.le_trans hz2 hl) ho hc hw) (Below.refl _ _) (fun _ => rfl)
    (ParI w) (fun c pre W => c = .ret ∧ ParX w pre W) (ParI.ownFrom w _ hz2) (fun c s' A B' row hs' hg hr => ⟨hs'.1, ParX.ownFrom w _ hz2 s' A B' row hs'.2 hg hr⟩) hI0
    (fun x a' W => a' = parA w s x)
    (fun x a' s' A B' row hs' hg hr => hs') ?assign ?body ?done ?stop
  case assign =>
    rintro l pre ⟨⟨p, q⟩, hq⟩ W K hi hK
    simp only [lenc] at *
    gi_wp2
    exact hK _ _ (KeepsFrom.ofExt (Ext.refl [] W) (by simp)) (Spare.ofExt (Ext.refl [] W) hi.below.size (by simp)) hi rfl
  case body =>
    rintro l pre ⟨⟨p, q⟩, hq⟩ a' W hl ⟨r, hr⟩ hI rfl hlt
    obtain ⟨ac, mc, C, h5, hT, hi, hp⟩ := hI.own
    have hE := Ext.ofBelow hI.below
    have hz3 : w.heap.size + 1 + 1 + 1 < W.heap.size := size_heap h5
    have tq := tableOf_any W (B q) (hG.ext hE) hq
    rw [L_B] at tq
    have f2 : Fence.wide.fn 24 := trivial
    have f3 : Fence.wide.fn 13 := trivial
    cases hq2 : tabL q with
    | none =>
      rw [hq2] at tq
      simp only [tableEnd] at tq
      have hpx : Hid (∀ rest, parseM [] ((pre ++ [(⟨(p, q), hq⟩ : Ln)]).map Subtype.val ++ rest) = ([], p, 212)) := by
        show ∀ rest, _
        intro rest
        rw [List.map_append, List.append_assoc, hp]
        show parseM C ((p, q) :: rest) = _
        rw [parseM, hq2]
      clear hq2 hp hT hG
      gi_wp2_with (gi_at_call 24; refine ((callsIn_wide.2 tq).inRound _).mono ?_; rintro e w5 ⟨⟨n, a1, n1, c1, a2, n2, c2, rfl⟩, x5⟩; have k2 := fun o => cell_of_heap (hp_alloc (p := o) (x5.heap hI.c2 (by simp))) 0; have k3 := fun o => cell_of_heap (hp_alloc (p := o) (x5.heap hI.c3 (by simp))) 0; have k4 := fun o => cell_of_heap (hp_alloc (p := o) (x5.heap hI.c4 (by simp))) 0; have z2 := fun o => frozen_of_heap (hp_alloc (p := o) (x5.heap hI.c2 (by simp))) 0; have z3 := fun o => frozen_of_heap (hp_alloc (p := o) (x5.heap hI.c3 (by simp))) 0; have z4 := fun o => frozen_of_heap (hp_alloc (p := o) (x5.heap hI.c4 (by simp))) 0)
      have hh := par_wrong (B := wL.heap.size) hI (x5.alloc (.cells #[.string n, .slice a1 n1 c1, .slice a2 n2 c2] 41)) hpx.out
      exact ⟨hh.1, rfl, hh.2⟩
    | some t =>
      rw [hq2] at tq
      simp only [tableEnd] at tq
      obtain ⟨l1, l2⟩ := tabL_len hq2
      have hql : q.length ≤ 1000 := hq
      have ad := fun U (x : Ext [] W U) a1 c1 a2 c2 oc ok (hcs : Cs U (.slice a1 t.cols.length c1) oc t.cols) (hks : Is U (.slice a2 t.keys.length c2) ok t.keys) =>
        Add_any [w.heap.size, w.heap.size + 1, w.heap.size + 1 + 1, w.heap.size + 1 + 1 + 1] U (fun i hi => by have := x.size; simp at hi; omega) (.slice ac C.length mc) C t a1 c1 a2 c2 oc ok (hT.ts.ext x) hcs hks (cat_ok hi) (by unfold maxLen; omega) (by unfold maxLen; omega) (hG.ext (hE.trans x)) (by have := cat_len hi; unfold maxLen; omega)
      by_cases hadd : addE C t = 0
      · have haL : addL C t = C ++ [t] := by unfold addL; rw [if_pos hadd]
        obtain ⟨g1, g2⟩ := add_zero hadd
        have hpn : Hid (∀ rest, parseM [] ((pre ++ [(⟨(p, q), hq⟩ : Ln)]).map Subtype.val ++ rest) = parseM (C ++ [t]) rest) := by
          show ∀ rest, _
          intro rest
          rw [List.map_append, List.append_assoc, hp]
          show parseM C ((p, q) :: rest) = _
          rw [parseM, hq2]
          dsimp only
          rw [if_pos hadd]
        rw [haL, hadd] at ad
        clear hq2 hp hT hG haL hadd
        gi_wp2_with (first
          | (gi_at_call 24; refine ((callsIn_wide.2 tq).inRound _).mono ?_; rintro e w5 ⟨⟨a1, c1, a2, c2, oc, ok, rfl, hcs, hks⟩, x5⟩; have e5 := (Ext.refl [] w5).alloc (.cells #[.string t.n, .slice a1 t.cols.length c1, .slice a2 t.keys.length c2] 41); have d0 := new_cells w5 [.string t.n, .slice a1 t.cols.length c1, .slice a2 t.keys.length c2] 41 0 _ rfl; have d1 := new_cells w5 [.string t.n, .slice a1 t.cols.length c1, .slice a2 t.keys.length c2] 41 1 _ rfl; have d2 := new_cells w5 [.string t.n, .slice a1 t.cols.length c1, .slice a2 t.keys.length c2] 41 2 _ rfl; have y5 := x5.trans e5; have k5 := cell_of_heap (y5.heap h5 (by simp)) 0)
          | (gi_at_call 13; refine ((callsIn_wide.2 (ad _ y5 a1 c1 a2 c2 oc ok (Cs.ext hcs e5 (by simp)) (Is.ext hks e5 (by simp)))).inRound _).mono ?_; rintro e w6 ⟨⟨v6, rfl, hT6⟩, x6⟩; obtain ⟨a6, m6, e6'⟩ := hT6.ts.shape; rw [List.length_append, List.length_singleton] at e6'; subst e6'; have n6 := new_cells w6 [.slice a6 (C.length + 1) m6] 24 0 _ rfl; have e6 := (Ext.refl [] w6).alloc (.cells #[.slice a6 (C.length + 1) m6] 24); have y6 := (y5.trans x6).trans e6; have k5' := cell_of_heap (y6.heap h5 (by simp)) 0; have z5 := frozen_of_heap (y6.heap h5 (by simp)) 0))
        have hX : Ext [w.heap.size + 1 + 1 + 1] W ((w6.alloc (.cells #[.slice a6 (C.length + 1) m6] 24)).setCell ⟨w.heap.size + 1 + 1 + 1, 0, none⟩ (.slice a6 (C.length + 1) m6)) := (y6.mono (by simp)).setCell (.inl (by simp)) _
        have hlen : (C ++ [t]).length = C.length + 1 := by simp
        refine ⟨KeepsFrom.ofExt hX (fun b hb => ?_), Spare.ofExt hX hI.below.size (fun b hb => ?_), ⟨hX.heap hI.c2 (by simp; omega), hX.heap hI.c3 (by simp), hX.heap hI.c4 (by simp), ⟨a6, m6, C ++ [t], ?_, ?_, g2, hpn.out⟩, ?_⟩⟩
        · obtain rfl : b = w.heap.size + 1 + 1 + 1 := by simpa using hb
          exact ⟨_, _, _, h5⟩
        · obtain rfl : b = w.heap.size + 1 + 1 + 1 := by simpa using hb
          exact ⟨by omega, _, _, _, h5, by decide⟩
        · rw [hlen]; exact heap_same (y6.heap h5 (by simp)) _
        · rw [hlen]; exact (hT6.keep e6).ext ((Ext.refl _ _).setCell (.inl (by simp)) _)
        · exact (hE.trans' hX (fun i hi => .inr (by simp at hi; omega))).below
      · have hpx : Hid (∀ rest, parseM [] ((pre ++ [(⟨(p, q), hq⟩ : Ln)]).map Subtype.val ++ rest) = ([], p, 212)) := by
          show ∀ rest, _
          intro rest
          rw [List.map_append, List.append_assoc, hp]
          show parseM C ((p, q) :: rest) = _
          rw [parseM, hq2]
          dsimp only
          rw [if_neg hadd]
        have haL : addL C t = [] := by unfold addL; rw [if_neg hadd]
        rw [haL] at ad
        generalize addE C t = E at *
        have hEn : (E != 0) = true := by simpa using hadd
        have s5 := fun o => cell_of_heap (hp_alloc (p := o) h5) 0
        clear hq2 hp hT hG haL hadd
        gi_wp2_with (first
          | (gi_at_call 24; refine ((callsIn_wide.2 tq).inRound _).mono ?_; rintro e w5 ⟨⟨a1, c1, a2, c2, oc, ok, rfl, hcs, hks⟩, x5⟩; have e5 := (Ext.refl [] w5).alloc (.cells #[.string t.n, .slice a1 t.cols.length c1, .slice a2 t.keys.length c2] 41); have d0 := new_cells w5 [.string t.n, .slice a1 t.cols.length c1, .slice a2 t.keys.length c2] 41 0 _ rfl; have d1 := new_cells w5 [.string t.n, .slice a1 t.cols.length c1, .slice a2 t.keys.length c2] 41 1 _ rfl; have d2 := new_cells w5 [.string t.n, .slice a1 t.cols.length c1, .slice a2 t.keys.length c2] 41 2 _ rfl; have y5 := x5.trans e5; have k5 := cell_of_heap (y5.heap h5 (by simp)) 0)
          | (gi_at_call 13; refine ((callsIn_wide.2 (ad _ y5 a1 c1 a2 c2 oc ok (Cs.ext hcs e5 (by simp)) (Is.ext hks e5 (by simp)))).inRound _).mono ?_; rintro e w6 ⟨⟨v6, rfl, hT6⟩, x6⟩; obtain ⟨a6, m6, rfl⟩ := hT6.ts.shape; have e6 := (Ext.refl [] w6).alloc (.cells #[.slice a6 0 m6] 24); have y6 := (y5.trans x6).trans e6; have k2 := cell_of_heap (y6.heap hI.c2 (by simp)) 0; have k3 := cell_of_heap (y6.heap hI.c3 (by simp)) 0; have k4 := cell_of_heap (y6.heap hI.c4 (by simp)) 0; have z2 := frozen_of_heap (y6.heap hI.c2 (by simp)) 0; have z3 := frozen_of_heap (y6.heap hI.c3 (by simp)) 0; have z4 := frozen_of_heap (y6.heap hI.c4 (by simp)) 0))
        have hh := par_wrong (B := wL.heap.size) hI y6 hpx.out
        exact ⟨hh.1, rfl, hh.2⟩
  case done =>
    rintro D xs W hD hxs hI hK
    obtain ⟨ac, mc, C, h5, hT, hi, hp⟩ := hI.own
    have hq : Hid (parseL (L s) = (C, 0, 0)) := by
      show _ = _
      unfold parseL
      rw [if_neg (by rw [← size_L]; omega), ← hxs]
      have := hp []
      rw [List.append_nil] at this
      rw [this, parseM]
    clear hp hxs
    have c5 := cell_of_heap h5 0
    have c2 := cell_of_heap hI.c2 0
    have c3 := cell_of_heap hI.c3 0
    have c4 := cell_of_heap hI.c4 0
    have g2 := frozen_of_heap hI.c2 0
    have g3 := frozen_of_heap hI.c3 0
    have g4 := frozen_of_heap hI.c4 0
    gi_wp2
    have hDz : wL.heap.size ≤ D := hD
    have a2 := heap_same hI.c2 (.slice ac C.length mc)
    have a3 := heap_same (heap_other hI.c3 (show w.heap.size ≠ w.heap.size + 1 by omega) 0 (.slice ac C.length mc)) (.int .i64 0)
    have a4 := heap_same (heap_other (heap_other hI.c4 (show w.heap.size ≠ w.heap.size + 1 + 1 by omega) 0 (.slice ac C.length mc)) (show w.heap.size + 1 ≠ w.heap.size + 1 + 1 by omega) 0 (.int .i64 0)) (.int .i64 0)
    have a2' := heap_other (heap_other a2 (show w.heap.size + 1 ≠ w.heap.size by omega) 0 (.int .i64 0)) (show w.heap.size + 1 + 1 ≠ w.heap.size by omega) 0 (.int .i64 0)
    have a3' := heap_other a3 (show w.heap.size + 1 + 1 ≠ w.heap.size + 1 by omega) 0 (.int .i64 0)
    have hK' := heap_other (heap_other (heap_other hK (show w.heap.size ≠ D by omega) 0 (.slice ac C.length mc)) (show w.heap.size + 1 ≠ D by omega) 0 (.int .i64 0)) (show w.heap.size + 1 + 1 ≠ D by omega) 0 (.int .i64 0)
    have hX : Ext [w.heap.size, w.heap.size + 1, w.heap.size + 1 + 1] W (((W.setCell ⟨w.heap.size, 0, none⟩ (.slice ac C.length mc)).setCell ⟨w.heap.size + 1, 0, none⟩ (.int .i64 0)).setCell ⟨w.heap.size + 1 + 1, 0, none⟩ (.int .i64 0)) := (((Ext.refl _ W).setCell (.inl (by simp)) _).setCell (.inl (by simp)) _).setCell (.inl (by simp)) _
    have hB := ((Ext.ofBelow hI.below).trans' hX (fun i hi => .inr (by simp at hi; omega))).below
    generalize ((W.setCell ⟨w.heap.size, 0, none⟩ (.slice ac C.length mc)).setCell ⟨w.heap.size + 1, 0, none⟩ (.int .i64 0)).setCell ⟨w.heap.size + 1 + 1, 0, none⟩ (.int .i64 0) = V at *
    have hT' := (hT.ext (hX.mono (by intro k _ hk; simp at hk ⊢; omega))).slid (W' := V.putObj D (.deferred none)) (row := some D) ⟨grownBy_putObj' V D _, fun r e => by cases e; exact ⟨_, hK', rfl⟩⟩
    have b2 := cell_of_heap ((World.putObj_heap_other (o := .deferred none) (show w.heap.size ≠ D by omega)).trans a2') 0
    have b3 := cell_of_heap ((World.putObj_heap_other (o := .deferred none) (show w.heap.size + 1 ≠ D by omega)).trans a3') 0
    have b4 := cell_of_heap ((World.putObj_heap_other (o := .deferred none) (show w.heap.size + 1 + 1 ≠ D by omega)).trans a4) 0
    refine ⟨by simp, .inl ⟨_, _, rfl, run_takeDeferred hK', ?_⟩⟩
    refine ⟨.tuple #[.agg #[.slice ac C.length mc], .int .i64 0, .int .i64 0], ?_, ?_⟩
    · simp [results, Tryz.results10, go_sem, b2, b3, b4]
    · have hbel : Below w.heap.size w (V.putObj D (.deferred none)) := hB.trans (belowK_b (w := w) (Nat.le_refl _) V D _ _ (by omega) hK' rfl rfl)
      exact ⟨.slice ac C.length mc, by rw [hq.out]; rfl, by rw [hq.out]; exact hT'.mono (by simp), Ext.ofBelow hbel⟩
  case stop =>
    rintro D c pre W hD hpre ⟨rfl, hX⟩ hK
    obtain ⟨p, h3, hp⟩ := hX.wrong
    have hq : Hid (parseL (L s) = ([], p, 212)) := by
      show _ = _
      unfold parseL
      obtain ⟨rest, hr⟩ := hpre.2
      rw [if_neg (by rw [← size_L]; omega), ← hr]
      exact hp rest
    clear hp
    gi_wp2
    have b2 := cell_of_heap ((World.putObj_heap_other (o := .deferred none) (show w.heap.size ≠ D by omega)).trans hX.c2) 0
    have b3 := cell_of_heap ((World.putObj_heap_other (o := .deferred none) (show w.heap.size + 1 ≠ D by omega)).trans h3) 0
    have b4 := cell_of_heap ((World.putObj_heap_other (o := .deferred none) (show w.heap.size + 1 + 1 ≠ D by omega)).trans hX.c4) 0
    refine ⟨by simp, .inl ⟨_, _, rfl, run_takeDeferred hK, ?_⟩⟩
    refine ⟨.tuple #[.agg #[.slice none 0 0], .int .i64 p, .int .i64 212], ?_, ?_⟩
    · simp [results, Tryz.results10, go_sem, b2, b3, b4]
    · have hbel : Below w.heap.size w (W.putObj D (.deferred none)) := hX.below.trans (belowK_b (w := w) (Nat.le_refl _) W D _ _ (by omega) hK rfl rfl)
      exact ⟨.slice none 0 0, by rw [hq.out], by rw [hq.out]; exact TsX.nil (w := w) (by simp) _, Ext.ofBelow hbel⟩
theorem Parse_any (w : World) (s : ByteArray) (hG : Glob w) : Calls Tryz.prog 10 #[.string s] w (ParseEnd w (L s)) := by
  by_cases hs : s.size ≤ 1000
  · exact parse_short w s hG hs
  · exact parse_long w s (by omega)
end Go.Proofs.YtjmfcjidhmaibaaGreatDoor
