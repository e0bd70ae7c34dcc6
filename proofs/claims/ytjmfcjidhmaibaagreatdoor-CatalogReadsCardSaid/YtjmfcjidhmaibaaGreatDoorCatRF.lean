
/-
  The reference's Read and Parse.
-/
import Derived.Test.YtjmfcjidhmaibaaGreatDoorCatRE
import Derived.Test.YtjmfcjidhmaibaaGreatDoorCatWI
import Derived.Test.YtjmfcjidhmaibaaGreatDoorCatVC
import Derived.Deep.CutBlock
import Derived.Deep.DeepCutAuto
namespace Go.Proofs.YtjmfcjidhmaibaaGreatDoor
open Go.RowKit
open Go.Lib hiding intOf
set_option linter.unusedVariables false
set_option linter.unusedSimpArgs false

/-! ## what is written over no list: a block that holds other things -/
theorem Sl.past {w w' : World} {v : Value} {ob size n : Nat} {xs : List Value} (h : Sl w v ob size n xs) {cb : Nat} {e : TypeId} {ys : List Value} (hB : Blk w cb e ys) (he : Ext [cb] w w')
    (hx : ∀ off : Nat, (∀ (j : Nat) (u : Value), xs[j]? = some u → ys[off + j]? = some u) → xs = []) : Sl w' v ob size n xs := by
  refine ⟨h.1, ?_⟩
  rcases h.2 with h2 | ⟨off, sp, cap, rfl, h1, h2, hsp, h3⟩
  · exact .inl h2
  · refine .inr ⟨off, sp, cap, rfl, h1, h2, hsp, ?_⟩
    by_cases hob : ob = cb
    · subst hob
      have := hx off (fun j u hu => by rw [← hB.cell]; exact h3 j u hu)
      subst this
      intro j u hu
      simp at hu
    · exact fun j u hu => he.read (h3 j u hu) (by simpa using hob)
theorem off_one {off : Nat} {x u : Value} (h : [x][off]? = some u) : u = x := by
  match off, h with
  | 0, h => exact (by simpa using h.symm)
  | k + 1, h => simp at h
theorem Cs.past1 {w w' : World} {v : Value} {ob : Nat} {l : List Col} (h : Cs w v ob l) {cb : Nat} {e : TypeId} {a : Option Addr} {n c : Nat} (hB : Blk w cb e [.slice a n c]) (he : Ext [cb] w w') : Cs w' v ob l :=
  Sl.past h hB he fun off ho => by
    cases l with
    | nil => rfl
    | cons x l => have := off_one (ho 0 (.string x.n) rfl); cases this
theorem Is.past1 {w w' : World} {v : Value} {ob : Nat} {l : List Int} (h : Is w v ob l) {cb : Nat} {e : TypeId} {a : Option Addr} {n c : Nat} (hB : Blk w cb e [.slice a n c]) (he : Ext [cb] w w') : Is w' v ob l :=
  Sl.past h hB he fun off ho => by
    cases l with
    | nil => rfl
    | cons x l => have := off_one (ho 0 (IV x) rfl); cases this
theorem Rs.past1 {w w' : World} {v : Value} {ob : Nat} {l : List Raw} (h : Rs w v ob l) {cb : Nat} {e : TypeId} {a : Option Addr} {n c : Nat} (hB : Blk w cb e [.slice a n c]) (he : Ext [cb] w w') : Rs w' v ob l :=
  Sl.past h hB he fun off ho => by
    cases l with
    | nil => rfl
    | cons x l => have := off_one (ho 0 (.string x.n) rfl); cases this
theorem Ts.past1 {w w' : World} {v : Value} {l : List Tab} (h : Ts w v l) {cb : Nat} {e : TypeId} {a : Option Addr} {n c : Nat} (hB : Blk w cb e [.slice a n c]) (he : Ext [cb] w w') : Ts w' v l := by
  obtain ⟨ob, rs, h1, h2, h3⟩ := h
  refine ⟨ob, rs, h1.past1 hB he, h2, fun k r t hr ht => ?_⟩
  obtain ⟨q1, ⟨oc, q2, q3⟩, ok, q4, q5⟩ := h3 k r t hr ht
  exact ⟨q1, ⟨oc, q2, q3.past1 hB he⟩, ok, q4, q5.past1 hB he⟩
theorem off_tab {off : Nat} {N : ByteArray} {C K u : Value} (h : [Value.string N, C, K][off]? = some u) : (off = 0 ∧ u = .string N) ∨ u = C ∨ u = K := by
  match off, h with
  | 0, h => exact .inl ⟨rfl, by simpa using h.symm⟩
  | 1, h => exact .inr (.inl (by simpa using h.symm))
  | 2, h => exact .inr (.inr (by simpa using h.symm))
  | k + 3, h => simp at h
theorem Cs.past3 {w w' : World} {v : Value} {ob : Nat} {l : List Col} (h : Cs w v ob l) {cb : Nat} {e : TypeId} {N : ByteArray} {a1 : Option Addr} {n1 c1 : Nat} {a2 : Option Addr} {n2 c2 : Nat} (hB : Blk w cb e [.string N, .slice a1 n1 c1, .slice a2 n2 c2]) (he : Ext [cb] w w') : Cs w' v ob l :=
  Sl.past h hB he fun off ho => by
    cases l with
    | nil => rfl
    | cons x l =>
      have h1 := off_tab (ho 1 (.int .i64 x.k) rfl)
      rcases h1 with ⟨_, h1⟩ | h1 | h1 <;> cases h1
theorem Is.past3 {w w' : World} {v : Value} {ob : Nat} {l : List Int} (h : Is w v ob l) {cb : Nat} {e : TypeId} {N : ByteArray} {a1 : Option Addr} {n1 c1 : Nat} {a2 : Option Addr} {n2 c2 : Nat} (hB : Blk w cb e [.string N, .slice a1 n1 c1, .slice a2 n2 c2]) (he : Ext [cb] w w') : Is w' v ob l :=
  Sl.past h hB he fun off ho => by
    cases l with
    | nil => rfl
    | cons x l =>
      have h1 := off_tab (ho 0 (IV x) rfl)
      rcases h1 with ⟨_, h1⟩ | h1 | h1 <;> cases h1

theorem readM_eq (ws : List W8) : readM ws = [1, 2, 3, 4].findSome? (readR ws) := rfl
theorem readM_first {ws : List W8} {k : Nat} {t : Tab} (h1 : 1 ≤ k) (h4 : k ≤ 4) (hn : ∀ j, 1 ≤ j → j < k → readR ws j = none) (h : readR ws k = some t) : readM ws = some t := by
  rw [readM_eq]
  have : k = 1 ∨ k = 2 ∨ k = 3 ∨ k = 4 := by omega
  rcases this with rfl | rfl | rfl | rfl
  · simp [List.findSome?, h]
  · simp [List.findSome?, h, hn 1 (by omega) (by omega)]
  · simp [List.findSome?, h, hn 1 (by omega) (by omega), hn 2 (by omega) (by omega)]
  · simp [List.findSome?, h, hn 1 (by omega) (by omega), hn 2 (by omega) (by omega), hn 3 (by omega) (by omega)]
theorem readM_all {ws : List W8} (hn : ∀ j, 1 ≤ j → j < 5 → readR ws j = none) : readM ws = none := by
  rw [readM_eq]
  simp [List.findSome?, hn 1 (by omega) (by omega), hn 2 (by omega) (by omega), hn 3 (by omega) (by omega), hn 4 (by omega) (by omega)]
set_option maxRecDepth 100000 in
set_option maxHeartbeats 4000000 in
theorem rRead_any (w : World) (s : ByteArray) (hs : s.size ≤ 5000) :
    Calls Tryz.prog 25 #[.string s] w fun e w' => tableEnd (readM (wds (L s))) e w' ∧ Ext [] w w' := by
  have hwl := wds_len (L s)
  have hwo := fun U => rWords_any U s (by omega)
  rw [← size_L] at hwl
  generalize wds (L s) = ws at *
  have e0 := (Ext.refl [] w).alloc (.cells #[.string ⟨#[]⟩, .slice none 0 0, .slice none 0 0] 41)
  have hR0 := Blk.new w [.string ⟨#[]⟩, .slice none 0 0, .slice none 0 0] 41
  go_enter Tryz.func25, Tryz.ntmps25
  go_upto_region 1 with (fail)
  generalize w.alloc (.cells #[.string ⟨#[]⟩, .slice none 0 0, .slice none 0 0] 41) = W at *
  generalize hrb : w.heap.size = rb at *
  have hbR := hR0.lt
  go_wp2_with (fail)
  go_loopw [4] (fun i wr => ∃ k : Nat, 1 ≤ k ∧ k ≤ 5 ∧ i = .int .i64 k ∧ Ext [] W wr ∧ Hid (∀ j, 1 ≤ j → j < k → readR ws j = none)) (fun i _ => 5 - (intOf i).toNat)
  case atStart => exact ⟨1, by omega, by omega, rfl, Ext.refl _ _, fun j h1 h2 => by omega⟩
  case round =>
    obtain ⟨k, hk1, hk5, rfl, hX, hS⟩ := hrel
    have hRr := hR0.ext hX (by simp)
    by_cases hlt : k ≤ 4
    · have rd := fun U a c on (hv : Ss U (.slice a ws.length c) on ws) => read_any U a c on ws k hv hk1 hlt (by omega)
      cases hr : readR ws k with
      | none =>
        rw [hr] at rd
        simp only [tableEnd] at rd
        have HS : Hid (∀ j, 1 ≤ j → j < k + 1 → readR ws j = none) := by
          intro j h1 h2
          by_cases e : j = k
          · subst e; exact hr
          · exact hS.out j h1 (by omega)
        clear hS hr
        go_wp2_with (first
          | (go_at_call 49; (with_reducible refine (hwo _).mono ?_); rintro e w1 ⟨⟨v, on, rfl, hV⟩, x1⟩; obtain ⟨av, cv, rfl⟩ := hV.shape)
          | (go_at_call 48; (with_reducible refine (rd _ _ _ _ hV).mono ?_); rintro e w2 ⟨⟨n', a1, n1, c1, a2, n2, c2, rfl⟩, x2⟩)
          | ((with_reducible refine at_store_tab ?_); refine wpList_store_blk rfl _ (.tmp 5) (.tmp 16) rfl rfl rfl (cells := [.string n', .slice a1 n1 c1, .slice a2 n2 c2]) rfl (Blk.new w2 [.string ⟨#[]⟩, .slice none 0 0, .slice none 0 0] 41) tab_info rfl one3 ?_; intro w3 hB3 x3))
        have xx3 : Ext [] w2 w3 := ((Ext.refl [] w2).alloc _).trans' x3 (fun i hi => .inr (by simp at hi; omega))
        go_roundw
        case rel => exact ⟨k + 1, by omega, by omega, by go_num, ((hX.trans x1).trans x2).trans xx3, HS⟩
        case measure => simp [intOf]; omega
      | some t =>
        rw [hr] at rd
        simp only [tableEnd] at rd
        have HR : Hid (readM ws = some t) := readM_first hk1 hlt hS.out hr
        clear hS hr
        go_wp2_with (first
          | (go_at_call 49; (with_reducible refine (hwo _).mono ?_); rintro e w1 ⟨⟨v, on, rfl, hV⟩, x1⟩; obtain ⟨av, cv, rfl⟩ := hV.shape)
          | (go_at_call 48; (with_reducible refine (rd _ _ _ _ hV).mono ?_); rintro e w2 ⟨⟨a1, c1, a2, c2, oc, ok, rfl, hC2, hK2⟩, x2⟩)
          | ((with_reducible refine at_store_tab ?_); refine wpList_store_blk rfl _ (.tmp 5) (.tmp 16) rfl rfl rfl (cells := [.string t.n, .slice a1 t.cols.length c1, .slice a2 t.keys.length c2]) rfl (Blk.new w2 [.string ⟨#[]⟩, .slice none 0 0, .slice none 0 0] 41) tab_info rfl one3 ?_; intro w3 hB3 x3; have d0 := hB3.cell 0; have d1 := hB3.cell 1; have d2 := hB3.cell 2; simp only [List.getElem?_cons_zero, List.getElem?_cons_succ] at d0 d1 d2; have xx3 : Ext [] w2 w3 := ((Ext.refl [] w2).alloc _).trans' x3 (fun i hi => .inr (by simp at hi; omega)); have hR3 := hRr.ext ((x1.trans x2).trans xx3) (by simp))
          | ((with_reducible refine at_store_tab ?_); refine wpList_store_blk rfl _ (.tmp 2) (.tmp 19) rfl rfl rfl (cells := [.string t.n, .slice a1 t.cols.length c1, .slice a2 t.keys.length c2]) rfl hR3 tab_info rfl one3 ?_; intro w4 hB4 x4))
        refine ret_cell_tmp Tryz.results25 rfl hB4 Tryz.underlying41 rfl tab_info rfl ?_
        rw [HR.out]
        have hE3 := e0.trans (((hX.trans x1).trans x2).trans xx3)
        exact ⟨⟨a1, c1, a2, c2, oc, ok, rfl, (hC2.ext xx3 (by simp)).past3 hR3 x4, (hK2.ext xx3 (by simp)).past3 hR3 x4⟩, hE3.trans' x4 (fun i hi => .inr (by simp at hi; omega))⟩
    · obtain rfl : k = 5 := by omega
      have HR : Hid (readM ws = none) := readM_all hS.out
      clear hS
      go_wp2_with ((with_reducible refine at_store_tab ?_); refine wpList_store_blk rfl _ (.tmp 2) (.tmp 20) rfl rfl rfl (cells := [.string ⟨#[]⟩, .slice none 0 0, .slice none 0 0]) rfl hRr tab_info rfl one3 ?_; intro w4 hR4 x4)
      refine ret_cell_tmp Tryz.results25 rfl hR4 Tryz.underlying41 rfl tab_info rfl ?_
      rw [HR.out]
      exact ⟨⟨⟨#[]⟩, none, 0, 0, none, 0, 0, rfl⟩, (e0.trans hX).trans' x4 (fun i hi => .inr (by simp at hi; omega))⟩

/-! ## Parse -/
/-- what the lines from p on say, behind the tables C -/
def parseAt (C : List Tab) (l : List UInt8) (p : Nat) : List Tab × Nat × Int := parseM C (lns p [] (l.drop p))
theorem parseAt_end {C : List Tab} {l : List UInt8} : parseAt C l l.length = (C, 0, 0) := by unfold parseAt; rw [List.drop_length]; rfl
theorem parseAt_miss {C : List Tab} {l : List UInt8} {p : Nat} (hp : p < l.length) (h : (10 : UInt8) ∉ l.drop p) : parseAt C l p = ([], p, 212) := by
  unfold parseAt
  rw [lns_miss _ _ _ h, List.nil_append, if_neg]
  · show (match tabL (l.drop p) with | none => _ | some t => _) = _
    rw [tabL_none h]
  · intro e
    have := congrArg List.length e
    rw [List.length_drop, List.length_nil] at this
    omega
theorem parseAt_hit {C : List Tab} {l : List UInt8} {p q : Nat} (hp : p ≤ q) (hq : l[q]? = some 10) (h : (10 : UInt8) ∉ (l.drop p).take (q - p)) :
    parseAt C l p = match tabL ((l.drop p).take (q - p) ++ [10]) with | none => ([], p, 212) | some t => if addE C t = 0 then parseAt (C ++ [t]) l (q + 1) else ([], p, 212) := by
  have hql := (List.getElem?_eq_some_iff.1 hq).1
  have e : l.drop p = (l.drop p).take (q - p) ++ 10 :: l.drop (q + 1) := by
    conv => lhs; rw [← List.take_append_drop (q - p) (l.drop p)]
    rw [List.drop_drop, show p + (q - p) = q by omega, List.drop_eq_getElem_cons hql, (List.getElem?_eq_some_iff.1 hq).2]
  have hl : ((l.drop p).take (q - p)).length = q - p := by rw [List.length_take, List.length_drop]; omega
  unfold parseAt
  conv => lhs; rw [e]
  rw [lns_hit _ _ _ _ h, hl, List.nil_append, List.length_nil, show p + 0 + (q - p) + 1 = q + 1 by omega]
  rfl
theorem parseAt_none {C : List Tab} {l : List UInt8} {p q : Nat} (hp : p ≤ q) (hq : l[q]? = some 10) (h : (10 : UInt8) ∉ (l.drop p).take (q - p)) (hr : readM (wds ((l.drop p).take (q - p))) = none) : parseAt C l p = ([], p, 212) := by
  rw [parseAt_hit hp hq h]
  have := readM_none hr
  split
  · rfl
  · rename_i t ht
    rw [if_neg]
    intro e
    have h1 := (add_zero e).1
    rw [this t ht] at h1
    cases h1
theorem parseAt_some {C : List Tab} {l : List UInt8} {p q : Nat} {t : Tab} (hp : p ≤ q) (hq : l[q]? = some 10) (h : (10 : UInt8) ∉ (l.drop p).take (q - p)) (hr : readM (wds ((l.drop p).take (q - p))) = some t) (hC : isCat C = true) :
    (fnd (C.map Tab.n) t.n < C.length ∧ parseAt C l p = ([], p, 212)) ∨ (¬ fnd (C.map Tab.n) t.n < C.length ∧ C.length = 4 ∧ parseAt C l p = ([], p, 212)) ∨
      (¬ fnd (C.map Tab.n) t.n < C.length ∧ C.length < 4 ∧ isCat (C ++ [t]) = true ∧ parseAt C l p = parseAt (C ++ [t]) l (q + 1)) := by
  obtain ⟨h1, h2⟩ := readM_tab.1 hr
  have hh := parseAt_hit (C := C) hp hq h
  rw [h1] at hh
  dsimp only at hh
  have hl := cat_len hC
  have key : (fnd (C.map Tab.n) t.n < C.length ∧ addE C t ≠ 0) ∨ (¬ fnd (C.map Tab.n) t.n < C.length ∧ C.length = 4 ∧ addE C t ≠ 0) ∨ (¬ fnd (C.map Tab.n) t.n < C.length ∧ C.length < 4 ∧ addE C t = 0) := by
    have hf := fnd_mem (ns := C.map Tab.n) (s := t.n)
    rw [List.length_map] at hf
    by_cases g1 : fnd (C.map Tab.n) t.n < C.length
    · refine .inl ⟨g1, fun e => ?_⟩
      have h3 := cat_nodup (add_zero e).2
      rw [List.map_append, List.nodup_append] at h3
      exact h3.2.2 _ (hf.1 g1) _ (by simp) rfl
    · by_cases g2 : C.length = 4
      · refine .inr (.inl ⟨g1, g2, fun e => ?_⟩)
        have h3 := cat_len (add_zero e).2
        rw [List.length_append, List.length_singleton] at h3
        omega
      · exact .inr (.inr ⟨g1, by omega, add_of (cat_append hC h2 (fun hm => g1 (hf.2 hm)) (by omega))⟩)
  rcases key with ⟨g1, g2⟩ | ⟨g1, g2, g3⟩ | ⟨g1, g2, g3⟩
  · exact .inl ⟨g1, by rw [hh, if_neg g2]⟩
  · exact .inr (.inl ⟨g1, g2, by rw [hh, if_neg g3]⟩)
  · exact .inr (.inr ⟨g1, g2, (add_zero g3).2, by rw [hh, if_pos g3]⟩)

theorem at_store_cat {P : Program} {ops : Array Oper} {rest : List Oper} {a : Act} {w : World} {Q : Exit → Act → World → Prop} {dst : Option Tmp} {x y : Operand} {ty : TypeId} {pos : String} {after : Array Edge} {g : Option (Nat × Bool)}
    (h : wpList P ops Q ({ dst, op := .store 24 x y, type := ty, pos, after, guard := g } :: rest) a w) :
    wpList P ops Q ({ dst, op := .store 24 x y, type := ty, pos, after, guard := g } :: rest) a w := h
theorem one1 {a : Option Addr} {n c : Nat} : ∀ u ∈ [Value.slice a n c], u.oneCell' = true := by
  intro u hu
  simp at hu
  subst hu
  rfl
/-- what comes of the reference's Parse -/
def RParse (w : World) (l : List UInt8) (e : Ending) (w' : World) : Prop :=
  ∃ v, e = .returned (.tuple #[KV v, .int .i64 (parseL l).2.1, .int .i64 (parseL l).2.2]) ∧ Ts w' v (parseL l).1 ∧ Ext [] w w'
theorem rparse_long (w : World) (s : ByteArray) (hs : 1000 < s.size) : Calls Tryz.prog 11 #[.string s] w (RParse w (L s)) := by
  have h0 : (1000 : Int) < (s.size : Int) := by omega
  have h1 : 1000 < (L s).length := hs
  have H : Hid (parseL (L s) = ([], 0, 3)) := by show _ = _; unfold parseL; rw [if_pos h1]
  have hR0 := Blk.new w [.slice none 0 0] 24
  have e0 := (Ext.refl [] w).alloc (.cells #[.slice none 0 0] 24)
  go_enter Tryz.func11, Tryz.ntmps11
  go_wp2_with ((with_reducible refine at_store_cat ?_); refine wpList_store_blk rfl _ (.tmp 2) (.tmp 13) rfl rfl rfl (cells := [.slice none 0 0]) rfl hR0 cat_info rfl one1 ?_; intro w4 hR4 x4)
  have r4 := hR4.cell 0
  simp only [List.getElem?_cons_zero] at r4
  refine bodyPost_ret (v := .tuple #[.agg #[.slice none 0 0], .int .i64 0, .int .i64 3]) (by simp [results, Tryz.results11, go_sem, r4]) rfl ?_
  exact ⟨.slice none 0 0, by rw [H.out]; rfl, by rw [H.out]; exact Ts.nil _, e0.trans' x4 (fun i hi => .inr (by simp at hi; omega))⟩
set_option maxRecDepth 100000 in
set_option maxHeartbeats 4000000 in
theorem rparse_short (w : World) (s : ByteArray) (hs : s.size ≤ 1000) : Calls Tryz.prog 11 #[.string s] w (RParse w (L s)) := by
  have hgt : ¬ ((1000 : Int) < (s.size : Int)) := by omega
  have hP0 : parseAt [] (L s) 0 = parseL (L s) := by
    unfold parseL parseAt
    rw [if_neg (by rw [← size_L]; omega), List.drop_zero]
  have e0 := (Ext.refl [] w).alloc (.cells #[.slice none 0 0] 24)
  have hR0 := Blk.new w [.slice none 0 0] 24
  unfold RParse
  obtain ⟨R, hR⟩ : ∃ R, parseL (L s) = R := ⟨_, rfl⟩
  rw [hR] at hP0 ⊢
  clear hR
  go_enter Tryz.func11, Tryz.ntmps11
  go_upto_region 3 with (fail)
  generalize w.alloc (.cells #[.slice none 0 0] 24) = W at *
  generalize hrb : w.heap.size = rb at *
  have hbR := hR0.lt
  have hc0 := Blk.new W [.slice none 0 0] 24
  have e1 := (Ext.refl [] W).alloc (.cells #[.slice none 0 0] 24)
  have hR0 := hR0.ext e1 (by simp)
  have e0 := e0.trans e1
  go_upto_region 4 with (fail)
  generalize W.alloc (.cells #[.slice none 0 0] 24) = W2 at *
  generalize hcb : W.heap.size = cb at *
  have hcbl := hc0.lt
  clear e1
  go_wp2_with (fail)
  go_loopw [6] (fun i wr => ∃ (p : Nat) (C : List Tab) (a : Option Addr) (c : Nat), i = .int .i64 p ∧ p ≤ s.size ∧ Blk wr cb 24 [.slice a C.length c] ∧ Ts wr (.slice a C.length c) C ∧ Ext [cb] W2 wr ∧ Hid (isCat C = true ∧ parseAt C (L s) p = R)) (fun i _ => s.size - (intOf i).toNat)
  case atStart => exact ⟨0, [], none, 0, rfl, by omega, hc0, Ts.nil _, Ext.refl _ _, ⟨by decide +kernel, hP0⟩⟩
  case round =>
    obtain ⟨p, C, a, c, rfl, hp, hB, hT, hX, hI⟩ := hrel
    have hRr := hR0.ext hX (by simp; omega)
    have hXw : Ext [] w wr := e0.trans' hX (fun i hi => .inr (by simp at hi; omega))
    have d0 := hB.cell 0
    simp only [List.getElem?_cons_zero] at d0
    by_cases hlt : p < s.size
    · generalize wr = V at *
      go_upto_block 2 with (fail)
      go_cut [7] (fun s7 wx => ∃ q : Nat, s7 = .int .i64 q ∧ p ≤ q ∧ q ≤ s.size ∧ wx = V ∧ Hid ((10 : UInt8) ∉ ((L s).drop p).take (q - p) ∧ (q < s.size → (L s)[q]? = some 10)))
      case first =>
        go_wp2_with (fail)
        go_loopw [7] (fun i vr => ∃ q : Nat, i = .int .i64 q ∧ p ≤ q ∧ q ≤ s.size ∧ V = vr ∧ Hid ((10 : UInt8) ∉ ((L s).drop p).take (q - p))) (fun i _ => s.size - (intOf i).toNat)
        case atStart => exact ⟨p, rfl, Nat.le_refl _, by omega, rfl, by show _ ∉ _; rw [Nat.sub_self]; simp⟩
        case round =>
          obtain ⟨q, rfl, hpq, hq, rfl, hJ⟩ := hrel
          by_cases hql : q < s.size
          · have hx : (L s)[q]? = some (s[q]'hql) := List.getElem?_eq_getElem (show q < (L s).length from hql)
            have b0 := (s[q]'hql).toNat_lt
            by_cases h10 : (s[q]'hql).toNat = 10
            · have he : (s[q]'hql) = 10 := UInt8.toNat_inj.1 h10
              have q1 : (((s[q]'hql).toNat : Int) != 10) = false := by simp; omega
              have HJ : Hid ((10 : UInt8) ∉ ((L s).drop p).take (q - p) ∧ (q < s.size → (L s)[q]? = some 10)) := ⟨hJ.out, fun _ => by rw [hx, he]⟩
              clear hx hJ he h10
              go_wp2_with (fail)
              go_meet
              exact ⟨q, rfl, hpq, hq, rfl, HJ⟩
            · have hne : (s[q]'hql) ≠ 10 := fun e => h10 (by rw [e]; rfl)
              have q1 : (((s[q]'hql).toNat : Int) != 10) = true := by simp; omega
              have HJ : Hid ((10 : UInt8) ∉ ((L s).drop p).take (q + 1 - p)) := by
                show _ ∉ _
                rw [show q + 1 - p = (q - p) + 1 by omega, List.take_add_one, List.getElem?_drop, show p + (q - p) = q by omega, hx]
                intro hm
                rcases List.mem_append.1 hm with hm | hm
                · exact hJ.out hm
                · exact hne (List.mem_singleton.1 (by simpa using hm)).symm
              clear hx hJ hne h10
              go_wp2_with (fail)
              go_roundw
              case rel => exact ⟨q + 1, by go_num, by omega, by omega, by first | rfl | trivial, HJ⟩
              case measure => simp [intOf]; omega
          · obtain rfl : q = s.size := by omega
            have HJ : Hid ((10 : UInt8) ∉ ((L s).drop p).take (s.size - p) ∧ (s.size < s.size → (L s)[s.size]? = some 10)) := ⟨hJ.out, fun h => by omega⟩
            clear hJ
            go_wp2_with (fail)
            go_meet
            exact ⟨s.size, by first | rfl | trivial, hpq, by first | omega | trivial, by first | rfl | trivial, HJ⟩
      case rest =>
        obtain ⟨q, rfl, hpq, hq, rfl, hJ⟩ := hcut
        generalize wc = V at *
        have hwq : ¬ (q = s.size) ∨ q = s.size := by omega
        rcases hwq with hqs | hqs
        · have hql : q < s.size := by omega
          have hq10 := hJ.out.2 hql
          have hJ1 := hJ.out.1
          have hrd := fun U => rRead_any U (s.extract p q) (by rw [size_L, L_extract, List.length_take]; omega)
          rw [L_extract] at hrd
          have q9 : ((q : Int) == (s.size : Int)) = false := by simp; omega
          have hC4 := cat_len hI.out.1
          cases hr : readM (wds (((L s).drop p).take (q - p))) with
          | none =>
            rw [hr] at hrd
            simp only [tableEnd] at hrd
            have HR : Hid (R = ([], p, 212)) := by show _ = _; rw [← hI.out.2, parseAt_none hpq hq10 hJ1 hr]
            clear hr hJ hq10 hJ1 hI hT
            go_wp2_with (first
              | (go_at_call 25; (with_reducible refine (hrd _).mono ?_); rintro e w2 ⟨⟨n', a1, n1, c1, a2, n2, c2, rfl⟩, x2⟩)
              | ((with_reducible refine at_store_tab ?_); refine wpList_store_blk rfl _ (.tmp 8) (.tmp 43) rfl rfl rfl (cells := [.string n', .slice a1 n1 c1, .slice a2 n2 c2]) rfl (Blk.new w2 [.string ⟨#[]⟩, .slice none 0 0, .slice none 0 0] 41) tab_info rfl one3 ?_; intro w3 hB3 x3; have xx3 : Ext [] w2 w3 := ((Ext.refl [] w2).alloc _).trans' x3 (fun i hi => .inr (by simp at hi; omega)); have d3 := cells_ext (x2.trans xx3) d0; have hR3 := hRr.ext (x2.trans xx3) (by simp); have t0 := hB3.cell 0; have t1 := hB3.cell 1; have t2 := hB3.cell 2; simp only [List.getElem?_cons_zero, List.getElem?_cons_succ] at t0 t1 t2)
              | ((with_reducible refine at_store_cat ?_); refine wpList_store_blk rfl _ (.tmp 2) (.tmp 60) rfl rfl rfl (cells := [.slice none 0 0]) rfl hR3 cat_info rfl one1 ?_; intro w4 hR4 x4))
            have r4 := hR4.cell 0
            simp only [List.getElem?_cons_zero] at r4
            refine bodyPost_ret (v := .tuple #[.agg #[.slice none 0 0], .int .i64 p, .int .i64 212]) (by simp [results, Tryz.results11, go_sem, r4]) rfl ?_
            exact ⟨.slice none 0 0, by rw [HR.out], by rw [HR.out]; exact Ts.nil _, (hXw.trans (x2.trans xx3)).trans' x4 (fun i hi => .inr (by simp at hi; omega))⟩
          | some t =>
            rw [hr] at hrd
            simp only [tableEnd] at hrd
            have hfd := fun U (x : Ext [] V U) => rFind_any U (.slice a C.length c) C t.n (hT.ext x) (by unfold maxLen; omega)
            unfold fndI at hfd
            rcases parseAt_some hpq hq10 hJ1 hr hI.out.1 with ⟨g1, g2⟩ | ⟨g1, g2, g3⟩ | ⟨g1, g2, g3, g4⟩
            · have HR : Hid (R = ([], p, 212)) := by show _ = _; rw [← hI.out.2, g2]
              rw [if_pos g1] at hfd
              generalize fnd (C.map Tab.n) t.n = kk at *
              have k1 : decide ((0 : Int) ≤ (kk : Int)) = true := by simp
              clear hr hJ hq10 hJ1 hI hT g1 g2
              go_wp2_with (first
                | (go_at_call 25; (with_reducible refine (hrd _).mono ?_); rintro e w2 ⟨⟨a1, c1, a2, c2, oc, ok, rfl, hC2, hK2⟩, x2⟩)
                | ((with_reducible refine at_store_tab ?_); refine wpList_store_blk rfl _ (.tmp 8) (.tmp 43) rfl rfl rfl (cells := [.string t.n, .slice a1 t.cols.length c1, .slice a2 t.keys.length c2]) rfl (Blk.new w2 [.string ⟨#[]⟩, .slice none 0 0, .slice none 0 0] 41) tab_info rfl one3 ?_; intro w3 hB3 x3; have xx3 : Ext [] w2 w3 := ((Ext.refl [] w2).alloc _).trans' x3 (fun i hi => .inr (by simp at hi; omega)); have d3 := cells_ext (x2.trans xx3) d0; have hR3 := hRr.ext (x2.trans xx3) (by simp); have t0 := hB3.cell 0; have t1 := hB3.cell 1; have t2 := hB3.cell 2; simp only [List.getElem?_cons_zero, List.getElem?_cons_succ] at t0 t1 t2)
                | (go_at_call 26; (with_reducible refine (hfd _ (x2.trans xx3)).mono ?_); rintro e w5 ⟨rfl, x5⟩; have hR5 := hR3.ext x5 (by simp); have d5 := cells_ext x5 d3)
                | ((with_reducible refine at_store_cat ?_); refine wpList_store_blk rfl _ (.tmp 2) (.tmp 60) rfl rfl rfl (cells := [.slice none 0 0]) rfl hR5 cat_info rfl one1 ?_; intro w4 hR4 x4))
              have r4 := hR4.cell 0
              simp only [List.getElem?_cons_zero] at r4
              refine bodyPost_ret (v := .tuple #[.agg #[.slice none 0 0], .int .i64 p, .int .i64 212]) (by simp [results, Tryz.results11, go_sem, r4]) rfl ?_
              exact ⟨.slice none 0 0, by rw [HR.out], by rw [HR.out]; exact Ts.nil _, ((hXw.trans (x2.trans xx3)).trans x5).trans' x4 (fun i hi => .inr (by simp at hi; omega))⟩
            · have HR : Hid (R = ([], p, 212)) := by show _ = _; rw [← hI.out.2, g3]
              rw [if_neg g1] at hfd
              have k2 : ((C.length : Int) == 4) = true := by simp; omega
              have k3 : (C.length == 4) = true := by simp; omega
              clear hr hJ hq10 hJ1 hI hT g1 g3
              have G2 := Lib.hid g2
              clear g2
              go_wp2_with (first
                | (go_at_call 25; (with_reducible refine (hrd _).mono ?_); rintro e w2 ⟨⟨a1, c1, a2, c2, oc, ok, rfl, hC2, hK2⟩, x2⟩)
                | ((with_reducible refine at_store_tab ?_); refine wpList_store_blk rfl _ (.tmp 8) (.tmp 43) rfl rfl rfl (cells := [.string t.n, .slice a1 t.cols.length c1, .slice a2 t.keys.length c2]) rfl (Blk.new w2 [.string ⟨#[]⟩, .slice none 0 0, .slice none 0 0] 41) tab_info rfl one3 ?_; intro w3 hB3 x3; have xx3 : Ext [] w2 w3 := ((Ext.refl [] w2).alloc _).trans' x3 (fun i hi => .inr (by simp at hi; omega)); have d3 := cells_ext (x2.trans xx3) d0; have hR3 := hRr.ext (x2.trans xx3) (by simp); have t0 := hB3.cell 0; have t1 := hB3.cell 1; have t2 := hB3.cell 2; simp only [List.getElem?_cons_zero, List.getElem?_cons_succ] at t0 t1 t2)
                | (go_at_call 26; (with_reducible refine (hfd _ (x2.trans xx3)).mono ?_); rintro e w5 ⟨rfl, x5⟩; have hR5 := hR3.ext x5 (by simp); have d5 := cells_ext x5 d3)
                | ((with_reducible refine at_store_cat ?_); refine wpList_store_blk rfl _ (.tmp 2) (.tmp 60) rfl rfl rfl (cells := [.slice none 0 0]) rfl hR5 cat_info rfl one1 ?_; intro w4 hR4 x4))
              have r4 := hR4.cell 0
              simp only [List.getElem?_cons_zero] at r4
              refine bodyPost_ret (v := .tuple #[.agg #[.slice none 0 0], .int .i64 p, .int .i64 212]) (by simp [results, Tryz.results11, go_sem, r4]) rfl ?_
              exact ⟨.slice none 0 0, by rw [HR.out], by rw [HR.out]; exact Ts.nil _, ((hXw.trans (x2.trans xx3)).trans x5).trans' x4 (fun i hi => .inr (by simp at hi; omega))⟩
            · have HI : Hid (isCat (C ++ [t]) = true ∧ parseAt (C ++ [t]) (L s) (q + 1) = R) := ⟨g3, by rw [← g4]; exact hI.out.2⟩
              rw [if_neg g1] at hfd
              have k2 : ((C.length : Int) == 4) = false := by simp; omega
              have k3 : (C.length == 4) = false := by simp; omega
              have hwi := fun U (x : Ext [] V U) a1 c1 a2 c2 oc ok hcs hks => With_any U (.slice a C.length c) C t a1 c1 a2 c2 oc ok (hT.ext x) (by omega) hcs hks
              clear hr hJ hq10 hJ1 hI hT g1 g3 g4
              have G2 := Lib.hid g2
              clear g2
              go_wp2_with (first
                | (go_at_call 25; (with_reducible refine (hrd _).mono ?_); rintro e w2 ⟨⟨a1, c1, a2, c2, oc, ok, rfl, hC2, hK2⟩, x2⟩)
                | ((with_reducible refine at_store_tab ?_); refine wpList_store_blk rfl _ (.tmp 8) (.tmp 43) rfl rfl rfl (cells := [.string t.n, .slice a1 t.cols.length c1, .slice a2 t.keys.length c2]) rfl (Blk.new w2 [.string ⟨#[]⟩, .slice none 0 0, .slice none 0 0] 41) tab_info rfl one3 ?_; intro w3 hB3 x3; have xx3 : Ext [] w2 w3 := ((Ext.refl [] w2).alloc _).trans' x3 (fun i hi => .inr (by simp at hi; omega)); have d3 := cells_ext (x2.trans xx3) d0; have hR3 := hRr.ext (x2.trans xx3) (by simp); have t0 := hB3.cell 0; have t1 := hB3.cell 1; have t2 := hB3.cell 2; simp only [List.getElem?_cons_zero, List.getElem?_cons_succ] at t0 t1 t2)
                | (go_at_call 26; (with_reducible refine (hfd _ (x2.trans xx3)).mono ?_); rintro e w5 ⟨rfl, x5⟩; have hB5 := hB.ext ((x2.trans xx3).trans x5) (by simp); have d5 := cells_ext x5 d3; have s0 := cells_ext x5 t0; have s1 := cells_ext x5 t1; have s2 := cells_ext x5 t2)
                | (go_at_call 27; (with_reducible refine (hwi _ ((x2.trans xx3).trans x5) a1 c1 a2 c2 oc ok ((hC2.ext xx3 (by simp)).ext x5 (by simp)) ((hK2.ext xx3 (by simp)).ext x5 (by simp))).mono ?_); rintro e w6 ⟨⟨v6, rfl, hT6⟩, x6⟩; obtain ⟨a6, c6, rfl⟩ := hT6.shape; have hB6 := hB5.ext x6 (by simp))
                | ((with_reducible refine at_store_cat ?_); refine wpList_store_blk rfl _ (.tmp 5) (.tmp 64) rfl rfl rfl (cells := [.slice a6 (C.length + 1) c6]) rfl hB6 cat_info rfl one1 ?_; intro w7 hB7 x7))
              go_roundw
              case rel => exact ⟨q + 1, C ++ [t], a6, c6, by go_num, by omega, by rw [List.length_append, List.length_singleton]; exact hB7, hT6.past1 hB6 x7, (hX.trans' (((x2.trans xx3).trans x5).trans x6) (by simp)).trans x7, HI⟩
              case measure => simp [intOf]; omega
        · subst hqs
          have HR : Hid (R = ([], p, 212)) := by
            show _ = _
            have hJ1 := hJ.out.1
            rw [List.take_of_length_le (by rw [List.length_drop, ← size_L]; omega)] at hJ1
            rw [← hI.out.2, parseAt_miss (by rw [← size_L]; exact hlt) hJ1]
          clear hI hJ hT
          go_wp2_with ((with_reducible refine at_store_cat ?_); refine wpList_store_blk rfl _ (.tmp 2) (.tmp 35) rfl rfl rfl (cells := [.slice none 0 0]) rfl hRr cat_info rfl one1 ?_; intro w4 hR4 x4)
          have r4 := hR4.cell 0
          simp only [List.getElem?_cons_zero] at r4
          refine bodyPost_ret (v := .tuple #[.agg #[.slice none 0 0], .int .i64 p, .int .i64 212]) (by simp [results, Tryz.results11, go_sem, r4]) rfl ?_
          exact ⟨.slice none 0 0, by rw [HR.out], by rw [HR.out]; exact Ts.nil _, hXw.trans' x4 (fun i hi => .inr (by simp at hi; omega))⟩
    · have hps : p = (L s).length := by rw [← size_L]; omega
      have hR : Hid (R = (C, 0, 0)) := by show _ = _; rw [← hI.out.2, hps, parseAt_end]
      clear hI hps
      go_wp2_with ((with_reducible refine at_store_cat ?_); refine wpList_store_blk rfl _ (.tmp 2) (.tmp 67) rfl rfl rfl (cells := [.slice a C.length c]) rfl hRr cat_info rfl one1 ?_; intro w4 hR4 x4)
      have r4 := hR4.cell 0
      simp only [List.getElem?_cons_zero] at r4
      refine bodyPost_ret (v := .tuple #[.agg #[.slice a C.length c], .int .i64 0, .int .i64 0]) (by simp [results, Tryz.results11, go_sem, r4]) rfl ?_
      exact ⟨_, by rw [hR.out]; rfl, by rw [hR.out]; exact hT.past1 hRr x4, hXw.trans' x4 (fun i hi => .inr (by simp at hi; omega))⟩
theorem rParse_any (w : World) (s : ByteArray) : Calls Tryz.prog 11 #[.string s] w (RParse w (L s)) := by
  by_cases hs : s.size ≤ 1000
  · exact rparse_short w s hs
  · exact rparse_long w s (by omega)
end Go.Proofs.YtjmfcjidhmaibaaGreatDoor
