
/-
  The table that a line says: tableOf.
-/
import Derived.Test.YtjmfcjidhmaibaaGreatDoorCatPA
namespace Go.Proofs.YtjmfcjidhmaibaaGreatDoor
open Go.RowKit
open Go.Lib hiding intOf
set_option linter.unusedVariables false

abbrev bNL : ByteArray := ⟨#[10]⟩
theorem L_dropLast (s : ByteArray) (h : 1 ≤ s.size) : s.extract 0 (s.size - 1) = B (L s).dropLast := by
  rw [← B_L (s.extract 0 (s.size - 1)), L_extract]
  congr 1
  rw [List.drop_zero, Nat.sub_zero, List.dropLast_eq_take, size_L]
theorem sCutSuffix_any (w : World) (s : ByteArray) (hs : s.size ≤ 1000000) :
    Calls Tryz.prog 68 #[.string s, .string bNL] w fun e w' => e = .returned (.tuple #[.string (if ([10] : List UInt8).isSuffixOf (L s) then B (L s).dropLast else s), .bool (([10] : List UInt8).isSuffixOf (L s))]) ∧ Ext [] w w' := by
  have h := HasSuffix_any w s bNL hs
  rw [show Lib.hasSuffix (L s) (L bNL) = ([10] : List UInt8).isSuffixOf (L s) from rfl] at h
  cases hb : ([10] : List UInt8).isSuffixOf (L s)
  · rw [hb] at h
    simp only [Bool.false_eq_true, if_false]
    clear hb
    go_enter Tryz.func68, Tryz.ntmps68
    go_wp2_with (go_at_call 87; (with_reducible refine h.mono ?_); rintro e w1 ⟨rfl, rfl⟩)
    go_ret2
    exact ⟨rfl, Ext.refl _ _⟩
  · rw [hb] at h
    have h1 : 1 ≤ s.size := by
      have := suffix_nl hb
      rw [size_L, this]; simp
    have hd := L_dropLast s h1
    have hn : s.size - 1 ≤ s.size := by omega
    have hw : wrap64 ((s.size : Int) - (bNL.size : Int)) = ((s.size - 1 : Nat) : Int) := by
      rw [show ((bNL.size : Nat) : Int) = 1 from rfl]
      unfold wrap64
      omega
    have hle : ((s.size - 1 : Nat) : Int) ≤ (s.size : Int) := by omega
    simp only [if_true]
    clear hb
    go_enter Tryz.func68, Tryz.ntmps68
    go_wp2_with (go_at_call 87; (with_reducible refine h.mono ?_); rintro e w1 ⟨rfl, rfl⟩)
    go_ret2
    exact ⟨rfl, Ext.refl _ _⟩
theorem CutSuffix_any (w : World) (s : ByteArray) (hs : s.size ≤ 1000000) :
    Calls Tryz.prog 43 #[.string s, .string bNL] w fun e w' => e = .returned (.tuple #[.string (if ([10] : List UInt8).isSuffixOf (L s) then B (L s).dropLast else s), .bool (([10] : List UInt8).isSuffixOf (L s))]) ∧ Ext [] w w' := by
  have h := sCutSuffix_any w s hs
  generalize (if ([10] : List UInt8).isSuffixOf (L s) then B (L s).dropLast else s) = x at *
  generalize ([10] : List UInt8).isSuffixOf (L s) = y at *
  go_enter Tryz.func43, Tryz.ntmps43
  go_wp2_with (go_at_call 68; (with_reducible refine h.mono ?_); rintro e w1 ⟨rfl, x1⟩)
  go_ret2
  exact ⟨rfl, x1⟩
abbrev bByB : ByteArray := ⟨#[32, 98, 121, 32]⟩
/-- Cut at the word by, and Split at blanks, of a text of words -/
theorem cut_body (l : List UInt8) : Lib.cut l (L bByB) = (join (cutW (wds l)).1 [32], join (cutW (wds l)).2.1 [32], (cutW (wds l)).2.2) := by
  have := cut_words (wds l) (wds_ne l) (wds_pure l)
  rw [wds_join] at this
  exact this
theorem split_ss (w : World) (s : ByteArray) (ws : List W8) (hw : wds (L s) = ws) (hG : Glob w) (hs : s.size ≤ 1000000) :
    Calls Tryz.prog 45 #[.string s, .string ⟨#[32]⟩] w fun e w' => ∃ a c, e = .returned (.slice a ws.length c) ∧ Ss w' (.slice a ws.length c) w.heap.size ws ∧ Ext [] w w' := by
  refine (Split_any w s ⟨#[32]⟩ hG hs (by decide)).mono fun e w' ⟨v, h1, h2, h3⟩ => ?_
  have hx := split_wds s
  rw [hw] at hx
  have hm : (Lib.splitB ⟨#[32]⟩ 0 (Lib.countB s ⟨#[32]⟩) s).map Value.string = ws.map fun x => Value.string (B x) := by
    rw [← hx, List.map_map]
    exact List.map_congr_left fun x _ => by simp [B_L]
  have hl : (Lib.splitB ⟨#[32]⟩ 0 (Lib.countB s ⟨#[32]⟩) s).length = ws.length := by rw [← hx, List.length_map]
  rw [hm, hl] at h2
  have hss : Ss w' v w.heap.size ws := h2
  obtain ⟨a, c, rfl⟩ := hss.shape
  exact ⟨a, c, h1, hss, h3⟩
/-- what comes of tableOf -/
def tableEnd (r : Option Tab) (e : Ending) (w' : World) : Prop := match r with
  | some t => ∃ a1 c1 a2 c2 oc ok, e = .returned (.tuple #[TV t.n (.slice a1 t.cols.length c1) (.slice a2 t.keys.length c2), .bool true]) ∧ Cs w' (.slice a1 t.cols.length c1) oc t.cols ∧ Is w' (.slice a2 t.keys.length c2) ok t.keys
  | none => ∃ n a1 n1 c1 a2 n2 c2, e = .returned (.tuple #[TV n (.slice a1 n1 c1) (.slice a2 n2 c2), .bool false])
theorem cut_le (l s : List UInt8) : (Lib.cut l s).1.length ≤ l.length ∧ (Lib.cut l s).2.1.length ≤ l.length := by
  unfold Lib.cut
  split
  · simp; omega
  · simp
theorem wds_len : ∀ l : List UInt8, (wds l).length ≤ l.length + 1
  | [] => by simp [wds]
  | c :: r => by
    have ih := wds_len r
    unfold wds
    split
    · simp; omega
    · split
      · simp
      · rename_i w t hw
        rw [hw] at ih
        simp at ih ⊢
        omega
theorem ne_text (w : W8) : ((B w).toList == [116, 97, 98, 108, 101]) = decide (w = wTable) := by
  have := toList_beq w wTable
  rw [show (B wTable).toList = [116, 97, 98, 108, 101] by rw [ByteArray.toList_eq]; rfl] at this
  rw [this]
  by_cases h : w = wTable
  · simp [h]
  · simp [h]
theorem tabW_no {a b : List W8} (h : a.length % 2 ≠ 0 ∨ a.head? ≠ some wTable) : tabW a b = none := by
  unfold tabW
  split
  · rename_i t n r
    rw [if_neg]
    rintro ⟨h1, h2⟩
    rcases h with h | h
    · simp at h; omega
    · simp [h1] at h
  · rfl
/-- a struct stored whole, into a block of its own -/
theorem wpList_store_blk {P : Program} {ops : Array Oper} {rest : List Oper} {o : Oper} {a : Act} {w : World} {Q : Exit → Act → World → Prop} (hgd : o.guard = none) (ty : TypeId) (x y : Operand) (ho : o.op = .store ty x y) (hd : o.dst = none)
    {g : Nat} {t : TypeId} {old cells : List Value} (hx : a.eval x = .pointer (some ⟨g, 0, none⟩)) (hy : a.eval y = .agg cells.toArray) (hB : Blk w g t old) (hi : (P.info? ty).map (·.size) = some cells.length) (hold : old.length = cells.length)
    (h1 : ∀ u ∈ cells, u.oneCell' = true) (h : ∀ w', Blk w' g t cells → Ext [g] w w' → wpList P ops Q rest a w') : wpList P ops Q (o :: rest) a w := by
  refine wpList_store_row hgd ty x y ho g cells.toArray hx hy t old.toArray hB (by simpa using hi) (by simpa using hold) (by simpa using h1) ?_
  rw [hd]
  refine h _ ?_ ⟨rfl, rfl, rfl, by simp [World.setRow], fun k hk hx => setRow_other w g k _ (by simpa using hx)⟩
  have := setRow_heap w g old.toArray cells.toArray t (0, 0) hB
  simpa [Blk] using this
theorem at_store_tab {P : Program} {ops : Array Oper} {rest : List Oper} {a : Act} {w : World} {Q : Exit → Act → World → Prop} {dst : Option Tmp} {x y : Operand} {ty : TypeId} {pos : String} {after : Array Edge} {g : Option (Nat × Bool)}
    (h : wpList P ops Q ({ dst, op := .store 41 x y, type := ty, pos, after, guard := g } :: rest) a w) :
    wpList P ops Q ({ dst, op := .store 41 x y, type := ty, pos, after, guard := g } :: rest) a w := h
theorem one3 {n : ByteArray} {a1 : Option Addr} {n1 c1 : Nat} {a2 : Option Addr} {n2 c2 : Nat} : ∀ u ∈ [Value.string n, .slice a1 n1 c1, .slice a2 n2 c2], u.oneCell' = true := by
  intro u hu
  simp at hu
  rcases hu with rfl | rfl | rfl <;> rfl
theorem colsW_at : ∀ (r : List W8) (j : Nat) (x y : W8), r[2 * j]? = some x → r[2 * j + 1]? = some y → (colsW r)[j]? = some ⟨B x, kindW y⟩
  | [], j, x, y, h, _ => by simp at h
  | [w], j, x, y, _, h => by
    have := (List.getElem?_eq_some_iff.1 h).1
    simp at this
  | n :: k :: r, 0, x, y, h1, h2 => by
    obtain rfl : n = x := by simpa using h1
    obtain rfl : k = y := by simpa using h2
    rfl
  | n :: k :: r, j + 1, x, y, h1, h2 => by
    rw [colsW, List.getElem?_cons_succ]
    exact colsW_at r j x y (by rw [show 2 * (j + 1) = 2 * j + 1 + 1 by omega, List.getElem?_cons_succ, List.getElem?_cons_succ] at h1; exact h1) (by rw [show 2 * (j + 1) + 1 = 2 * j + 1 + 1 + 1 by omega, List.getElem?_cons_succ, List.getElem?_cons_succ] at h2; exact h2)
theorem Cs.own {w : World} {base e : Nat} {v : Value} {l : List Col} (h : w.ownsRow base e 2 v l.length (crows l)) : ∃ o, base ≤ o ∧ Cs w v o l := by
  obtain ⟨o, h1, h2⟩ := Sl.of_own h
  rcases h2 with rfl | ⟨h2, -⟩
  · exact ⟨base, Nat.le_refl _, Sl.any_none h1 base⟩
  · exact ⟨o, h2, h1⟩
theorem Blk.sets {w : World} {b : Nat} {e : TypeId} {l l' : List Value} (h : Blk w b e l) (i : Nat) (v : Value) (hl : l.set i v = l') : Blk (w.setCell ⟨b, i, none⟩ v) b e l' := hl ▸ h.set i v
set_option maxRecDepth 100000 in
set_option maxHeartbeats 4000000 in
theorem tableOf_any (w : World) (s : ByteArray) (hG : Glob w) (hs : s.size ≤ 1000) :
    Calls Tryz.prog 24 #[.string s] w fun e w' => tableEnd (tabL (L s)) e w' ∧ Ext [] w w' := by
  have hcs := fun U => CutSuffix_any U s (by omega)
  obtain ⟨bd, S, hbl, hbd, hcs, hT⟩ : ∃ (bd : List UInt8) (S : Bool), bd.length ≤ 1000 ∧ ([10] : List UInt8).isSuffixOf (L s) = S ∧
      (∀ U : World, Calls Tryz.prog 43 #[.string s, .string bNL] U fun e w' => e = .returned (.tuple #[.string (B bd), .bool S]) ∧ Ext [] U w') ∧ (S = true → tabL (L s) = tabW (cutW (wds bd)).1 (cutW (wds bd)).2.1) := by
    cases hsuf : ([10] : List UInt8).isSuffixOf (L s)
    · rw [hsuf] at hcs
      exact ⟨L s, false, hs, rfl, by simpa [B_L] using hcs, fun h => by cases h⟩
    · rw [hsuf] at hcs
      exact ⟨(L s).dropLast, true, by have := size_L s; simp; omega, rfl, by simpa using hcs, fun _ => by unfold tabL; rw [if_pos hsuf]⟩
  have hct := fun U (x : Ext [] w U) => Cut_any U (B bd) bByB (hG.ext x) (by rw [size_L, L_B]; omega)
  simp only [L_B, cut_body] at hct
  obtain ⟨q1, q2⟩ := cutW_pure (wds_pure bd)
  obtain ⟨c1, c2⟩ := cut_le bd (L bByB)
  have hne := cutW_ne _ (wds_ne bd)
  have hsp := cutW_spec (wds bd)
  have hwl := wds_len bd
  rw [cut_body] at c1 c2
  generalize cutW (wds bd) = P at *
  obtain ⟨a, b, f⟩ := P
  dsimp only at *
  have hal : a.length + b.length ≤ 1001 := by
    have := congrArg List.length hsp.1
    rw [List.length_append] at this
    by_cases hf : f = true
    · rw [if_pos hf] at this; simp at this; omega
    · have hb : b = [] := by
        by_cases hb : b = []
        · exact hb
        · exact absurd (hsp.2.2 hb) hf
      rw [if_neg hf] at this; rw [hb]; simp at this ⊢; omega
  have hs1 := fun U (x : Ext [] w U) => split_ss U (B (join a [32])) a (wds_of_join _ hne q1) (hG.ext x) (by rw [size_L, L_B]; omega)
  have hf := hsp.2
  clear hsp hwl c1 q1
  have e0 := (Ext.refl [] w).alloc (.cells #[.string ⟨#[]⟩, .slice none 0 0, .slice none 0 0] 41)
  have hR0 := Blk.new w [.string ⟨#[]⟩, .slice none 0 0, .slice none 0 0] 41
  by_cases h1 : S = false
  · have HT : Hid (tabL (L s) = none) := by show _ = _; unfold tabL; rw [hbd, h1]; rfl
    subst h1
    clear hT hbd
    go_enter Tryz.func24, Tryz.ntmps24
    go_wp2_with (first
      | (go_at_call 43; (with_reducible refine (hcs _).mono ?_); rintro e w1 ⟨rfl, x1⟩)
      | (go_at_call 44; (with_reducible refine (hct _ (e0.trans x1)).mono ?_); rintro e w2 ⟨rfl, x2⟩)
      | (go_at_call 45; (with_reducible refine (hs1 _ ((e0.trans x1).trans x2)).mono ?_); rintro e w3 ⟨av, cv, rfl, hv, x3⟩; have y3 := (x1.trans x2).trans x3; have hR3 := hR0.ext y3 (by simp))
      | ((with_reducible refine at_store_tab ?_); refine wpList_store_blk rfl _ (.tmp 2) (.tmp 41) rfl rfl rfl (cells := [.string ⟨#[]⟩, .slice none 0 0, .slice none 0 0]) rfl hR3 tab_info rfl one3 ?_; intro w4 hR4 x4))
    refine ret_cell_tmp Tryz.results24 rfl hR4 Tryz.underlying41 rfl tab_info rfl ?_
    rw [HT.out]
    exact ⟨⟨⟨#[]⟩, none, 0, 0, none, 0, 0, rfl⟩, (e0.trans y3).trans' x4 (fun i hi => .inr (by simp at hi; omega))⟩
  · obtain rfl : S = true := by simpa using h1
    have hT := hT rfl
    by_cases h2 : a.length % 2 = 0
    · have h3 : (a.length : Int) % 2 = 0 := by omega
      obtain ⟨w0, a', rfl⟩ : ∃ w0 a', a = w0 :: a' := by
        cases a with
        | nil => exact absurd rfl hne
        | cons x y => exact ⟨x, y, rfl⟩
      by_cases h4 : w0 = wTable
      · subst h4
        obtain ⟨nm, r, rfl⟩ : ∃ nm r, a' = nm :: r := by
          cases a' with
          | nil => simp at h2
          | cons x y => exact ⟨x, y, rfl⟩
        have hr2 : r.length % 2 = 0 := by simp at h2; omega
        have hTT : tabL (L s) = (keysW (colsW r) b).map (fun ks => ⟨B nm, colsW r, ks⟩) := by rw [hT]; exact if_pos ⟨rfl, hr2⟩
        have hbt : B wTable = ⟨#[116, 97, 98, 108, 101]⟩ := rfl
        have h3' : ((r.length : Int) + 1 + 1) % 2 = 0 := by omega
        have HT := Lib.hid hTT
        clear hT hbd h2 hne h3 hTT
        go_enter Tryz.func24, Tryz.ntmps24
        go_wp2_with (first
          | (go_at_call 43; (with_reducible refine (hcs _).mono ?_); rintro e w1 ⟨rfl, x1⟩)
          | (go_at_call 44; (with_reducible refine (hct _ (e0.trans x1)).mono ?_); rintro e w2 ⟨rfl, x2⟩)
          | (go_at_call 45; (with_reducible refine (hs1 _ ((e0.trans x1).trans x2)).mono ?_); rintro e w3 ⟨av, cv, rfl, hv, x3⟩; have y3 := (x1.trans x2).trans x3; have hR3 := hR0.ext y3 (by simp); obtain ⟨o, x, rfl, hx, c0⟩ := hv.at 0 (by simp); obtain rfl : wTable = x := (by simpa using hx); rw [Nat.add_zero, hbt] at c0; obtain ⟨o2, x2', e2', hx2, c1⟩ := hv.at 1 (by simp); obtain rfl : o = o2 := (by simpa using e2'); obtain rfl : nm = x2' := (by simpa using hx2))
          | ((with_reducible refine at_store_tab ?_); refine wpList_store_blk rfl _ (.tmp 10) (.tmp 45) rfl rfl rfl (cells := [.string (B nm), .slice none 0 0, .slice none 0 0]) rfl (Blk.new w3 [.string ⟨#[]⟩, .slice none 0 0, .slice none 0 0] 41) tab_info rfl one3 ?_; intro w4 hT4 x4))
        have hpb : w2.heap.size < w3.heap.size := World.block_lt_of_cell? _ _ c0
        have z4 := x4.size
        simp only [World.size_alloc] at z4
        have xx4 : Ext [] w3 w4 := ((Ext.refl [] w3).alloc _).trans' x4 (fun i hi => .inr (by simp at hi; omega))
        generalize w2.heap.size = pb at *
        generalize htb : w3.heap.size = tb at *
        clear hcs hct hs1 x4 c0 c1 hx hx2 e2'
        go_loopw [11] (fun i wr => ∃ (j : Nat) (vo : Value), 2 * j ≤ r.length ∧ i = .int .i64 ((2 + 2 * j : Nat) : Int) ∧ Blk wr tb 41 [.string (B nm), vo, .slice none 0 0] ∧ wr.ownsRow (tb + 1) 67 2 vo ((colsW r).take j).length (crows ((colsW r).take j)) ∧ Ext [] w3 wr) (fun i _ => r.length + 2 - (intOf i).toNat)
        case atStart => exact ⟨0, .slice none 0 0, by omega, rfl, by assumption, World.ownsRow_nil _ _ _ _, xx4⟩
        case round =>
          obtain ⟨j, vo, hj, rfl, hT, hO, hX⟩ := hrel
          have hvr : Ss wr (.slice (some ⟨pb, o, none⟩) (wTable :: nm :: r).length cv) pb (wTable :: nm :: r) := Sl.ext hv hX (by simp)
          by_cases hlt : 2 * j < r.length
          · have hlt2 : 2 * j + 1 < r.length := by omega
            obtain ⟨K, hK⟩ : ∃ K : Nat, K = 2 + 2 * j := ⟨_, rfl⟩
            have ex : (wTable :: nm :: r)[K]? = some r[2 * j] := by rw [hK, show 2 + 2 * j = 2 * j + 1 + 1 by omega, List.getElem?_cons_succ, List.getElem?_cons_succ, List.getElem?_eq_getElem hlt]
            have ey : (wTable :: nm :: r)[K + 1]? = some r[2 * j + 1] := by rw [hK, show 2 + 2 * j + 1 = 2 * j + 1 + 1 + 1 by omega, List.getElem?_cons_succ, List.getElem?_cons_succ, List.getElem?_eq_getElem hlt2]
            have hc := colsW_at r j _ _ (List.getElem?_eq_getElem hlt) (List.getElem?_eq_getElem hlt2)
            generalize r[2 * j] = x at *
            generalize r[2 * j + 1] = y at *
            obtain ⟨ox, xx, oe, hxx, cx⟩ := hvr.at K (by simp; omega)
            obtain rfl : o = ox := by simpa using oe
            obtain rfl : x = xx := by rw [ex] at hxx; exact Option.some.inj hxx
            obtain ⟨oy, yy, oe2, hyy, cy⟩ := hvr.at (K + 1) (by simp; omega)
            obtain rfl : o = oy := by simpa using oe2
            obtain rfl : y = yy := by rw [ey] at hyy; exact Option.some.inj hyy
            have hcl := colsW_length r
            have htk : (colsW r).take (j + 1) = (colsW r).take j ++ [⟨B x, kindW y⟩] := by rw [List.take_add_one, hc]; rfl
            have hlj : ((colsW r).take j).length = j := by rw [List.length_take, hcl]; omega
            have d1 := hT.cell 1
            simp only [List.getElem?_cons_zero, List.getElem?_cons_succ] at d1
            have y1 := fun ob => cells_ext ((Ext.refl [] wr.drew).alloc ob) (show wr.drew.cell? ⟨tb, 1, none⟩ = some vo from d1)
            have hGr := hG.ext (e0.trans (y3.trans hX))
            have kf := kindOf_any wr.drew y (hGr.ext (Ext.refl [] wr).drew)
            have htl := hT.lt
            have hown : ∀ b' ∈ vo.ownBlock.toList, tb + 1 ≤ b' := own_ge hO
            have hpX : pb ∉ tb :: vo.ownBlock.toList := by
              rw [List.mem_cons, not_or]
              exact ⟨by omega, fun hm => by have := hown _ hm; omega⟩
            have htX : tb ∉ vo.ownBlock.toList := fun hm => by have := hown _ hm; omega
            have hb1 : (K : Int) + 1 ≤ 1000 := by simp at hal; omega
            have hKn : K < r.length + 1 + 1 := by omega
            have hKn1 : K + 1 < r.length + 1 + 1 := by omega
            rw [hlj] at hO
            have i1 : (0 : Int) ≤ (K : Int) := by omega
            have i2 : (K : Int) < (r.length : Int) + 1 + 1 := by omega
            have i3 : (K : Int) + 1 < (r.length : Int) + 1 + 1 := by omega
            have i5 : (0 : Int) ≤ (K : Int) + 1 := by omega
            have i4 : IntKind.i64.wrap ((K : Int) + 1) = (K : Int) + 1 := by rw [IntKind.wrap_i64]; omega
            have hjb : j ≤ 600 := by simp at hal; omega
            rw [← hK]
            have HK := Lib.hid hK
            have HL := Lib.hid (And.intro htk hlj)
            clear hK ex ey hxx hyy hc htk hlj hlt hlt2 hj hcl oe oe2 hr2 hvr hv h3'
            go_upto_region 10 with (fail)
            go_region_law (first
                | (go_simp; go_at_call 46; (with_reducible refine kf.mono ?_); rintro e w5 ⟨rfl, rfl⟩; dsimp only)
                | (refine step_append_sl TCol (by rfl) (.tmp 53) (.tmp 65) (by rfl) (by rfl) (own_ext hO (((Ext.refl [] wr).drew).alloc _) (by simp)) (by rfl) (Cs.lit wr.drew [⟨B x, kindW y⟩] 67 (by simp)) (crows_one _) (by unfold maxLen; simp only [List.length_cons, List.length_nil]; omega) (by simp only [List.length_cons, List.length_nil]; omega) (Nat.le_trans (Nat.succ_le_of_lt htl) (((Ext.refl [] wr).drew).alloc _).size) ?_; intro v' w5 hO' h5; obtain ⟨av', cap', hv'⟩ := sl_shape (Sl.of_own hO').choose_spec.1; subst hv'; have s5 : Ext (tb :: vo.ownBlock.toList) wr w5 := (((Ext.refl [] wr).drew.alloc _).mono (by simp)).trans (h5.mono (by simp +contextual)); have hT5 := hT.ext ((((Ext.refl [] wr).drew.alloc _).mono (by simp)).trans h5) htX; have t5 := hT5.cell 1; have f5 := hT5.frozen 1; simp only [List.getElem?_cons_zero, List.getElem?_cons_succ] at t5))
            all_goals
              have hB5 : Blk (w5.setCell ⟨tb, 1, none⟩ (.slice av' (j + 1) cap')) tb 41 [.string (B nm), .slice av' (j + 1) cap', .slice none 0 0] := hT5.sets 1 (.slice av' (j + 1) cap') rfl
              have hO5 := own_ext hO' ((Ext.refl [tb] w5).setCell (p := ⟨tb, 1, none⟩) (.inl (by simp)) (.slice av' (j + 1) cap')) (fun k hk hm => by have := (hO'.lt k hk).1; simp at hm; omega)
              have hX5 : Ext [] w3 (w5.setCell ⟨tb, 1, none⟩ (.slice av' (j + 1) cap')) := hX.trans' (s5.setCell (p := ⟨tb, 1, none⟩) (.inl (by simp)) (.slice av' (j + 1) cap')) (fun i hi => .inr (by
                rcases List.mem_cons.1 hi with rfl | hi
                · omega
                · have := hown _ hi; omega))
              have hl5 : ((colsW r).take (j + 1)).length = j + 1 := by rw [HL.out.1, List.length_append, HL.out.2]; rfl
              have hO6 : (w5.setCell ⟨tb, 1, none⟩ (.slice av' (j + 1) cap')).ownsRow (tb + 1) 67 2 (.slice av' (j + 1) cap') ((colsW r).take (j + 1)).length (crows ((colsW r).take (j + 1))) := by
                rw [hl5, HL.out.1, crows_append]; exact hO5
              have HH := Lib.hid (And.intro hB5 (And.intro hO6 hX5))
              clear hB5 hO5 hX5 hO6 hl5 hO' hT5 t5 f5 s5 h5 hT hO hX d1 y1 kf hGr cx cy hown
              go_wp2_with (fail)
              have hK := HK.out
              exact ⟨⟨j + 1, .slice av' (j + 1) cap', by omega, by go_num, HH.out.1, HH.out.2.1, HH.out.2.2⟩, by simp [intOf]; omega⟩
          · have hcl := colsW_length r
            have htk : (colsW r).take j = colsW r := List.take_of_length_le (by omega)
            rw [htk] at hO
            obtain ⟨oc, hoc, hCs⟩ := Cs.own hO
            obtain ⟨av1, cv1, rfl⟩ := hCs.shape
            have d0 := hT.cell 0
            have d1 := hT.cell 1
            have d2 := hT.cell 2
            simp only [List.getElem?_cons_zero, List.getElem?_cons_succ] at d0 d1 d2
            have hRr := hR3.ext hX (by simp)
            have hXw := e0.trans (y3.trans hX)
            have hw2 : w.heap.size < wr.heap.size := hRr.lt
            have hlt' : ¬ (((2 + 2 * j : Nat) : Int) < (r.length : Int) + 1 + 1) := by omega
            cases f
            · obtain rfl : b = [] := by
                by_cases hb : b = []
                · exact hb
                · exact absurd (hf.2 hb) (by simp)
              clear hO hcl htk hvr hv h3' hr2 hX hT hlt
              go_wp2_with ((with_reducible refine at_store_tab ?_); refine wpList_store_blk rfl _ (.tmp 2) (.tmp 70) rfl rfl rfl (cells := [.string (B nm), .slice av1 (colsW r).length cv1, .slice none 0 0]) rfl hRr tab_info rfl one3 ?_; intro w5 hR5 x5)
              refine ret_cell_tmp Tryz.results24 rfl hR5 Tryz.underlying41 rfl tab_info rfl ?_
              rw [HT.out]
              exact ⟨⟨av1, cv1, none, 0, oc, 0, rfl, hCs.ext x5 (by simp; have := y3.size; simp at this; omega), Sl.nil _ _ _⟩, hXw.trans' x5 (fun i hi => .inr (by simp at hi; omega))⟩
            · have hb : b ≠ [] := hf.1 rfl
              have hs2 := split_ss wr.drew (B (join b [32])) b (wds_of_join b hb q2) (hG.ext hXw.drew) (by rw [size_L, L_B]; omega)
              have ks := fun U (x : Ext [] wr U) v on (hv : Ss U v on b) => keysOf_any U (B nm) av1 cv1 none 0 0 oc (colsW r) v on b (Cs.ext hCs x (by simp)) (by simp at hal; omega) hv (by simp at hal; omega)
              cases hkw : keysW (colsW r) b
              · rw [hkw] at ks HT
                simp only [keysEnd] at ks
                clear hO hcl htk hvr hv h3' hr2 hlt hb hf hkw
                go_upto_region 13 with (fail)
                go_region_held3 (fun w' => w'.cell? ⟨tb, 0, none⟩ = some (.string (B nm)) ∧ w'.cell? ⟨tb, 1, none⟩ = some (.slice av1 (colsW r).length cv1) ∧ w'.cell? ⟨tb, 2, none⟩ = some (.slice none 0 0) ∧ Ext [] wr w')
                  (first | exact ⟨d0, d1, d2, (Ext.refl [] wr).drew⟩ | assumption)
                  (first
                    | (go_at_call 45; (with_reducible refine hs2.mono ?_); rintro e w5 ⟨av, cv', rfl, hsv, x5⟩; have s5 := keep3 (by assumption) x5)
                    | (go_at_call 47; (with_reducible refine (ks _ ((Ext.refl [] wr).drew.trans x5) _ _ hsv).mono ?_); rintro e w6 ⟨rfl, x6⟩; have s6 := keep3 (by assumption) x6))
                have hT6 := hT.ext s6.2.2.2 (by simp)
                have z2 := hT6.frozen 2
                have c2' := s6.2.2.1
                have hT7 : Blk (w6.setCell ⟨tb, 2, none⟩ (.slice none 0 0)) tb 41 [.string (B nm), .slice av1 (colsW r).length cv1, (.slice none 0 0)] := hT6.sets 2 (.slice none 0 0) rfl
                have hE7 := (Ext.refl [tb] w6).setCell (p := ⟨tb, 2, none⟩) (.inl (by simp)) (.slice none 0 0)
                have hR7 := (hRr.ext s6.2.2.2 (by simp)).ext hE7 (by simp; have := y3.size; simp at this; omega)
                have t0 := hT7.cell 0
                have t1 := hT7.cell 1
                have t2 := hT7.cell 2
                simp only [List.getElem?_cons_zero, List.getElem?_cons_succ] at t0 t1 t2
                have hlt8 := hT.lt
                clear ks s5 hT hT6 hT7 d0 d1 d2 hs2
                have hXX := hXw.trans s6.2.2.2
                have hW6 := s6.2.2.2
                clear s6
                go_wp2_with ((with_reducible refine at_store_tab ?_); refine wpList_store_blk rfl _ (.tmp 2) (.tmp 80) rfl rfl rfl (cells := [.string (B nm), .slice av1 (colsW r).length cv1, (.slice none 0 0)]) rfl hR7 tab_info rfl one3 ?_; intro w8 hR8 x8)
                refine ret_cell_tmp Tryz.results24 rfl hR8 Tryz.underlying41 rfl tab_info rfl ?_
                have hE8 : Ext [] w w8 := (hXX.trans' hE7 (fun i hi => .inr (by simp at hi; have := y3.size; simp at this; omega))).trans' x8 (fun i hi => .inr (by simp at hi; omega))
                rw [HT.out]
                exact ⟨⟨_, _, _, _, _, _, _, rfl⟩, hE8⟩
              · rename_i kl
                rw [hkw] at ks HT
                simp only [keysEnd] at ks
                clear hO hcl htk hvr hv h3' hr2 hlt hb hf hkw
                go_upto_region 13 with (fail)
                go_region_held3 (fun w' => w'.cell? ⟨tb, 0, none⟩ = some (.string (B nm)) ∧ w'.cell? ⟨tb, 1, none⟩ = some (.slice av1 (colsW r).length cv1) ∧ w'.cell? ⟨tb, 2, none⟩ = some (.slice none 0 0) ∧ Ext [] wr w')
                  (first | exact ⟨d0, d1, d2, (Ext.refl [] wr).drew⟩ | assumption)
                  (first
                    | (go_at_call 45; (with_reducible refine hs2.mono ?_); rintro e w5 ⟨av, cv', rfl, hsv, x5⟩; have s5 := keep3 (by assumption) x5)
                    | (go_at_call 47; (with_reducible refine (ks _ ((Ext.refl [] wr).drew.trans x5) _ _ hsv).mono ?_); rintro e w6 ⟨⟨ka, kc, ok, hok, rfl, hI6⟩, x6⟩; have s6 := keep3 (by assumption) x6))
                have hT6 := hT.ext s6.2.2.2 (by simp)
                have z2 := hT6.frozen 2
                have c2' := s6.2.2.1
                have hT7 : Blk (w6.setCell ⟨tb, 2, none⟩ (.slice ka kl.length kc)) tb 41 [.string (B nm), .slice av1 (colsW r).length cv1, (.slice ka kl.length kc)] := hT6.sets 2 (.slice ka kl.length kc) rfl
                have hE7 := (Ext.refl [tb] w6).setCell (p := ⟨tb, 2, none⟩) (.inl (by simp)) (.slice ka kl.length kc)
                have hR7 := (hRr.ext s6.2.2.2 (by simp)).ext hE7 (by simp; have := y3.size; simp at this; omega)
                have t0 := hT7.cell 0
                have t1 := hT7.cell 1
                have t2 := hT7.cell 2
                simp only [List.getElem?_cons_zero, List.getElem?_cons_succ] at t0 t1 t2
                have hlt8 := hT.lt
                clear ks s5 hT hT6 hT7 d0 d1 d2 hs2
                have hXX := hXw.trans s6.2.2.2
                have hW6 := s6.2.2.2
                clear s6
                go_wp2_with ((with_reducible refine at_store_tab ?_); refine wpList_store_blk rfl _ (.tmp 2) (.tmp 80) rfl rfl rfl (cells := [.string (B nm), .slice av1 (colsW r).length cv1, (.slice ka kl.length kc)]) rfl hR7 tab_info rfl one3 ?_; intro w8 hR8 x8)
                refine ret_cell_tmp Tryz.results24 rfl hR8 Tryz.underlying41 rfl tab_info rfl ?_
                have hE8 : Ext [] w w8 := (hXX.trans' hE7 (fun i hi => .inr (by simp at hi; have := y3.size; simp at this; omega))).trans' x8 (fun i hi => .inr (by simp at hi; omega))
                rw [HT.out]
                have hok2 := ((Ext.refl [] wr).drew.trans x5).size
                have hoc2 : oc ∉ [tb] := by simp; omega
                have hoc3 : oc ∉ [w.heap.size] := by simp; have := y3.size; simp at this; omega
                have hok3 : ok ∉ [tb] := by simp; have := hlt8; omega
                have hok4 : ok ∉ [w.heap.size] := by simp; have := y3.size; simp at this; have := hlt8; omega
                exact ⟨⟨av1, cv1, ka, kc, oc, ok, rfl, Cs.ext (Cs.ext (Cs.ext hCs hW6 (by simp)) hE7 hoc2) x8 hoc3, Is.ext (Is.ext hI6 hE7 hok3) x8 hok4⟩, hE8⟩
      · have HT : Hid (tabL (L s) = none) := by show _ = _; rw [hT, tabW_no (.inr (by simpa using h4))]
        have h5 := ne_text w0
        rw [decide_eq_false h4] at h5
        clear hT hbd h2 h4 hne
        go_enter Tryz.func24, Tryz.ntmps24
        go_wp2_with (first
          | (go_at_call 43; (with_reducible refine (hcs _).mono ?_); rintro e w1 ⟨rfl, x1⟩)
          | (go_at_call 44; (with_reducible refine (hct _ (e0.trans x1)).mono ?_); rintro e w2 ⟨rfl, x2⟩)
          | (go_at_call 45; (with_reducible refine (hs1 _ ((e0.trans x1).trans x2)).mono ?_); rintro e w3 ⟨av, cv, rfl, hv, x3⟩; have y3 := (x1.trans x2).trans x3; have hR3 := hR0.ext y3 (by simp); obtain ⟨o, x, rfl, hx, c0⟩ := hv.at 0 (by simp); obtain rfl : w0 = x := (by simpa using hx); rw [Nat.add_zero] at c0)
          | ((with_reducible refine at_store_tab ?_); refine wpList_store_blk rfl _ (.tmp 2) (.tmp 41) rfl rfl rfl (cells := [.string ⟨#[]⟩, .slice none 0 0, .slice none 0 0]) rfl hR3 tab_info rfl one3 ?_; intro w4 hR4 x4))
        refine ret_cell_tmp Tryz.results24 rfl hR4 Tryz.underlying41 rfl tab_info rfl ?_
        rw [HT.out]
        exact ⟨⟨⟨#[]⟩, none, 0, 0, none, 0, 0, rfl⟩, (e0.trans y3).trans' x4 (fun i hi => .inr (by simp at hi; omega))⟩
    · have HT : Hid (tabL (L s) = none) := by show _ = _; rw [hT, tabW_no (.inl h2)]
      have h3 : (a.length : Int) % 2 = 1 := by omega
      clear hT hbd h2
      go_enter Tryz.func24, Tryz.ntmps24
      go_wp2_with (first
        | (go_at_call 43; (with_reducible refine (hcs _).mono ?_); rintro e w1 ⟨rfl, x1⟩)
        | (go_at_call 44; (with_reducible refine (hct _ (e0.trans x1)).mono ?_); rintro e w2 ⟨rfl, x2⟩)
        | (go_at_call 45; (with_reducible refine (hs1 _ ((e0.trans x1).trans x2)).mono ?_); rintro e w3 ⟨av, cv, rfl, hv, x3⟩; have y3 := (x1.trans x2).trans x3; have hR3 := hR0.ext y3 (by simp))
        | ((with_reducible refine at_store_tab ?_); refine wpList_store_blk rfl _ (.tmp 2) (.tmp 41) rfl rfl rfl (cells := [.string ⟨#[]⟩, .slice none 0 0, .slice none 0 0]) rfl hR3 tab_info rfl one3 ?_; intro w4 hR4 x4))
      refine ret_cell_tmp Tryz.results24 rfl hR4 Tryz.underlying41 rfl tab_info rfl ?_
      rw [HT.out]
      exact ⟨⟨⟨#[]⟩, none, 0, 0, none, 0, 0, rfl⟩, (e0.trans y3).trans' x4 (fun i hi => .inr (by simp at hi; omega))⟩
end Go.Proofs.YtjmfcjidhmaibaaGreatDoor
