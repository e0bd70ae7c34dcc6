/-
  Plain mathematics of lines: the table that a line says, a text's lines, a text read.
-/
import Derived.Test.YtjmfcjidhmaibaaGreatDoorCatY
namespace Go.Proofs.YtjmfcjidhmaibaaGreatDoor
open Go.Lib
set_option linter.unusedVariables false

/-! ## the table that a line says -/
def kindW (w : W8) : Int := if w = [98, 111, 111, 108] then 1 else if w = [105, 110, 116] then 2 else if w = [116, 101, 120, 116] then 3 else 0
theorem kindW_kw {k : Int} (h : kw k ≠ []) : kindW (kw k) = k := by
  have := kw_nil (k := k)
  have h2 : 1 ≤ k ∧ k ≤ 3 := by
    by_cases h3 : 1 ≤ k ∧ k ≤ 3
    · exact h3
    · exact absurd (this.2 h3) h
  have h3 : k = 1 ∨ k = 2 ∨ k = 3 := by omega
  rcases h3 with rfl | rfl | rfl <;> decide
theorem kw_kindW {w : W8} (h : kw (kindW w) ≠ []) : kw (kindW w) = w := by
  unfold kindW at *
  split
  · rename_i e; rw [e]; rfl
  · split
    · rename_i e; rw [e]; rfl
    · split
      · rename_i e; rw [e]; rfl
      · rename_i h1 h2 h3
        rw [if_neg h1, if_neg h2, if_neg h3] at h
        exact absurd rfl h
def colsW : List W8 → List Col
  | n :: k :: r => ⟨B n, kindW k⟩ :: colsW r
  | _ => []
theorem colsW_parts : ∀ l : List Col, (∀ c ∈ l, kw c.k ≠ []) → colsW ((colParts l).map L) = l
  | [], _ => rfl
  | c :: l, h => by
    simp only [colParts, List.map_cons, colsW, L_B]
    rw [kindW_kw (h c (by simp)), B_L, colsW_parts l (fun d hd => h d (by simp [hd]))]
theorem parts_colsW : ∀ r : List W8, r.length % 2 = 0 → (∀ c ∈ colsW r, kw c.k ≠ []) → (colParts (colsW r)).map L = r
  | [], _, _ => rfl
  | [w], h, _ => by simp at h
  | n :: k :: r, h, hk => by
    have h1 : kw (kindW k) ≠ [] := hk ⟨B n, kindW k⟩ (by simp [colsW])
    simp only [colsW, colParts, List.map_cons, L_B]
    rw [kw_kindW h1, parts_colsW r (by simp at h; omega) (fun c hc => hk c (by simp [colsW, hc]))]
theorem colsW_length : ∀ r : List W8, (colsW r).length = r.length / 2
  | [] => rfl
  | [w] => by simp [colsW]
  | n :: k :: r => by simp [colsW, colsW_length r]; omega
def keysW (cs : List Col) : List W8 → Option (List Int)
  | [] => some []
  | w :: r => if fnd (cs.map Col.n) (B w) < cs.length then (keysW cs r).map ((fnd (cs.map Col.n) (B w) : Int) :: ·) else none
theorem keysW_names (cs : List Col) : ∀ (b : List W8) (ks : List Int), keysW cs b = some ks → (ks.map (nameAt cs)).map L = b
  | [], ks, h => by
    obtain rfl : ks = [] := by simpa [keysW] using h.symm
    rfl
  | w :: r, ks, h => by
    unfold keysW at h
    split at h
    · rename_i hlt
      rw [Option.map_eq_some_iff] at h
      obtain ⟨ls, h1, rfl⟩ := h
      have ih := keysW_names cs r ls h1
      have hf := fnd_lt (ns := cs.map Col.n) (s := B w) (by rw [List.length_map]; exact hlt)
      rw [List.getElem?_map] at hf
      have hn : nameAt cs (fnd (cs.map Col.n) (B w) : Int) = B w := by
        unfold nameAt
        rw [show ((fnd (cs.map Col.n) (B w) : Int)).toNat = fnd (cs.map Col.n) (B w) by omega, hf]
        rfl
      rw [List.map_cons, List.map_cons, hn, ih, L_B]
    · cases h
theorem keysW_of (cs : List Col) (hd : (cs.map Col.n).Nodup) : ∀ ks : List Int, (∀ k ∈ ks, 0 ≤ k ∧ k < (cs.length : Int)) → keysW cs ((ks.map (nameAt cs)).map L) = some ks
  | [], _ => rfl
  | k :: r, h => by
    obtain ⟨h1, h2⟩ := h k (by simp)
    have hlt : k.toNat < cs.length := by omega
    have hn : nameAt cs k = (cs[k.toNat]).n := by
      unfold nameAt
      rw [List.getElem?_eq_getElem hlt]; rfl
    have hf : fnd (cs.map Col.n) (nameAt cs k) = k.toNat := by
      refine (nodup_fnd _).2 hd _ _ ?_
      rw [List.getElem?_map, List.getElem?_eq_getElem hlt, hn]; rfl
    simp only [List.map_cons, keysW, B_L]
    rw [hf, if_pos hlt, keysW_of cs hd r (fun x hx => h x (by simp [hx]))]
    simp
    omega
abbrev wTable : W8 := [116, 97, 98, 108, 101]
def tabW (a b : List W8) : Option Tab :=
  match a with
  | t :: n :: r => if t = wTable ∧ r.length % 2 = 0 then (keysW (colsW r) b).map (fun ks => ⟨B n, colsW r, ks⟩) else none
  | _ => none
/-- the table that a line (with its line feed) says, which may be one that may not be -/
def tabL (l : List UInt8) : Option Tab := if [10].isSuffixOf l then tabW (cutW (wds l.dropLast)).1 (cutW (wds l.dropLast)).2.1 else none

theorem suffix_nl {l : List UInt8} (h : ([10] : List UInt8).isSuffixOf l = true) : l = l.dropLast ++ [10] := by
  rw [List.isSuffixOf_iff_suffix] at h
  obtain ⟨t, rfl⟩ := h
  simp
theorem suffix_nl' (l : List UInt8) : ([10] : List UInt8).isSuffixOf (l ++ [10]) = true := by
  rw [List.isSuffixOf_iff_suffix]
  exact ⟨l, rfl⟩
theorem isTab_kinds {t : Tab} (h : isTab t = true) : ∀ c ∈ t.cols, kw c.k ≠ [] := fun c hc => by
  have := tab_cols h c hc
  unfold isCol at this
  simp only [Bool.and_eq_true, decide_eq_true_eq] at this
  exact this.2
theorem isTab_nodup {t : Tab} (h : isTab t = true) : (t.cols.map Col.n).Nodup := by
  unfold isTab fitsL at h
  simp only [Bool.and_eq_true, decide_eq_true_eq] at h
  exact h.1.2.2.1
/-- what is read of a line is laid as that line -/
theorem line_of_read {l : List UInt8} {t : Tab} (h : tabL l = some t) (ht : isTab t = true) : lineB t = l := by
  unfold tabL at h
  split at h
  · rename_i hs
    have hl := suffix_nl hs
    have hj := wds_join l.dropLast
    obtain ⟨h1, h2⟩ := cutW_spec (wds l.dropLast)
    generalize cutW (wds l.dropLast) = p at *
    obtain ⟨a, b, f⟩ := p
    dsimp only at *
    unfold tabW at h
    split at h
    · rename_i tt n r
      split at h
      · rename_i hc
        obtain ⟨rfl, hc⟩ := hc
        rw [Option.map_eq_some_iff] at h
        obtain ⟨ks, hk, rfl⟩ := h
        have e1 := parts_colsW r hc (isTab_kinds ht)
        have e2 := keysW_names _ b ks hk
        have hw : (tabParts ⟨B n, colsW r, ks⟩).map L = wds l.dropLast := by
          rw [h1]
          unfold tabParts
          rw [List.map_append, List.map_append, List.map_append]
          dsimp only
          rw [e1, e2]
          have hby : (byParts ks).map L ++ b = if f = true then wBy :: b else [] := by
            unfold byParts
            by_cases hb : b = []
            · subst hb
              have : ks = [] := by
                have := congrArg List.length e2
                simpa using this
              rw [if_pos this, if_neg (fun hf => (h2.1 hf) rfl)]
              rfl
            · have : ks ≠ [] := by
                rintro rfl
                exact hb (by simpa using e2.symm)
              rw [if_neg this, if_pos (h2.2 hb)]
              rfl
          rw [List.append_assoc, hby]
          rfl
        unfold lineB
        rw [hw, hj, ← hl]
      · cases h
    · cases h
  · cases h
theorem name_span {l : W8} (h : isName l = true) : ∀ x ∈ l, x ≠ 32 ∧ x ≠ 10 := by
  unfold isName at h
  simp only [Bool.and_eq_true] at h
  have h1 := List.all_eq_true.1 h.1.2
  intro x hx
  have := h1 x hx
  constructor <;> (rintro rfl; revert this; decide)
theorem name_by {l : W8} (h : isName l = true) : l ≠ wBy := by
  rintro rfl
  revert h
  decide
theorem kw_span (k : Int) : (∀ x ∈ kw k, x ≠ 32 ∧ x ≠ 10) ∧ kw k ≠ wBy := by
  unfold kw
  split
  · decide
  · split
    · decide
    · split <;> decide
theorem colParts_word : ∀ (l : List Col), (∀ c ∈ l, isCol c = true) → ∀ w ∈ (colParts l).map L, (∀ x ∈ w, x ≠ 32 ∧ x ≠ 10) ∧ w ≠ wBy
  | [], _, w, h => by simp [colParts] at h
  | c :: l, hc, w, h => by
    simp only [colParts, List.map_cons, List.mem_cons, L_B] at h
    rcases h with rfl | rfl | h
    · have := col_name (hc c (by simp))
      exact ⟨name_span this, name_by this⟩
    · exact kw_span _
    · exact colParts_word l (fun d hd => hc d (by simp [hd])) w h
theorem head_word {t : Tab} (h : isTab t = true) : ∀ w ∈ ([bTable, t.n] ++ colParts t.cols).map L, (∀ x ∈ w, x ≠ 32 ∧ x ≠ 10) ∧ w ≠ wBy := by
  intro w hw
  rw [List.map_append, List.mem_append] at hw
  rcases hw with hw | hw
  · simp only [List.map_cons, List.map_nil, List.mem_cons, List.mem_nil_iff, or_false] at hw
    rcases hw with rfl | rfl
    · exact ⟨by decide, by decide⟩
    · exact ⟨name_span (tab_name h), name_by (tab_name h)⟩
  · exact colParts_word _ (tab_cols h) w hw
theorem key_word {t : Tab} (h : isTab t = true) : ∀ w ∈ (t.keys.map (nameAt t.cols)).map L, (∀ x ∈ w, x ≠ 32 ∧ x ≠ 10) := by
  intro w hw
  obtain ⟨y, hy, rfl⟩ := List.mem_map.1 hw
  obtain ⟨k, hk, rfl⟩ := List.mem_map.1 hy
  have := tab_keys h k hk
  have hlt : k.toNat < t.cols.length := by omega
  unfold nameAt
  rw [List.getElem?_eq_getElem hlt]
  exact name_span (col_name (tab_cols h _ (List.getElem_mem hlt)))
theorem parts_word {t : Tab} (h : isTab t = true) : ∀ w ∈ (tabParts t).map L, (∀ x ∈ w, x ≠ 32 ∧ x ≠ 10) := by
  intro w hw
  unfold tabParts at hw
  rw [List.map_append, List.map_append, List.mem_append, List.mem_append] at hw
  rcases hw with (hw | hw) | hw
  · exact (head_word h w hw).1
  · unfold byParts at hw
    split at hw
    · simp at hw
    · obtain rfl : w = L bBy := by simpa using hw
      decide
  · exact key_word h w hw
theorem parts_ne (t : Tab) : (tabParts t).map L ≠ [] := by simp [tabParts]
theorem join_no (c : UInt8) (hc : c ≠ 32) : ∀ ws : List W8, (∀ w ∈ ws, c ∉ w) → c ∉ join ws [32]
  | [], _ => by simp [join_nil]
  | [w], h => by rw [join_one]; exact h w (by simp)
  | w :: v :: r, h => by
    rw [join_more, List.mem_append, List.mem_cons]
    rintro (hm | hm | hm)
    · exact h w (by simp) hm
    · exact hc hm
    · exact join_no c hc (v :: r) (fun x hx => h x (by simp [hx])) hm
/-- a table's line has its line feed at its end alone -/
theorem line_end {t : Tab} (h : isTab t = true) : ∃ x, lineB t = x ++ [10] ∧ (10 : UInt8) ∉ x :=
  ⟨_, rfl, join_no 10 (by decide) _ (fun w hw hm => (parts_word h w hw 10 hm).2 rfl)⟩
/-- of a table's line the table is read -/
theorem read_of_line {t : Tab} (h : isTab t = true) : tabL (lineB t) = some t := by
  unfold tabL lineB
  rw [if_pos (suffix_nl' _), List.dropLast_concat, wds_of_join _ (parts_ne t) (fun w hw hm => (parts_word h w hw 32 hm).1 rfl)]
  have hh : (tabParts t).map L = ([bTable, t.n] ++ colParts t.cols).map L ++ ((byParts t.keys).map L ++ (t.keys.map (nameAt t.cols)).map L) := by
    unfold tabParts
    rw [List.map_append, List.map_append, List.append_assoc]
  have hcut : (cutW ((tabParts t).map L)).1 = ([bTable, t.n] ++ colParts t.cols).map L ∧ (cutW ((tabParts t).map L)).2.1 = (t.keys.map (nameAt t.cols)).map L := by
    rw [hh]
    unfold byParts
    by_cases hk : t.keys = []
    · rw [if_pos hk, hk]
      simp only [List.map_nil, List.append_nil]
      rw [cutW_none _ (fun w hw => (head_word h w hw).2)]
      exact ⟨rfl, rfl⟩
    · rw [if_neg hk]
      have := cutW_some ((t.keys.map (nameAt t.cols)).map L) (by simpa using hk) (([bTable, t.n] ++ colParts t.cols).map L) (by simp) (fun w hw => (head_word h w hw).2)
      have e : ([bBy].map L ++ (t.keys.map (nameAt t.cols)).map L) = wBy :: (t.keys.map (nameAt t.cols)).map L := rfl
      rw [e, this]
      exact ⟨rfl, rfl⟩
  rw [hcut.1, hcut.2]
  have e : ([bTable, t.n] ++ colParts t.cols).map L = wTable :: L t.n :: (colParts t.cols).map L := rfl
  rw [e]
  unfold tabW
  dsimp only
  have hlen : ((colParts t.cols).map L).length % 2 = 0 := by rw [List.length_map, colParts_length]; omega
  rw [if_pos ⟨rfl, hlen⟩, colsW_parts _ (isTab_kinds h), keysW_of _ (isTab_nodup h) _ (tab_keys h), B_L]
  rfl
theorem line_inj {t u : Tab} (ht : isTab t = true) (hu : isTab u = true) (h : lineB t = lineB u) : t = u := by
  have := read_of_line ht
  rw [h, read_of_line hu] at this
  exact (Option.some.inj this).symm

/-! ## a text's lines -/
def lns : Nat → List UInt8 → List UInt8 → List (Nat × List UInt8)
  | p, cur, [] => if cur = [] then [] else [(p, cur)]
  | p, cur, c :: r => if c = 10 then (p, cur ++ [10]) :: lns (p + cur.length + 1) [] r else lns p (cur ++ [c]) r
theorem lns_hit (p : Nat) (r : List UInt8) : ∀ (a cur : List UInt8), (10 : UInt8) ∉ a → lns p cur (a ++ 10 :: r) = (p, cur ++ a ++ [10]) :: lns (p + cur.length + a.length + 1) [] r
  | [], cur, _ => by simp [lns]
  | c :: a, cur, h => by
    rw [List.cons_append, lns, if_neg (fun e => h (by simp [e])), lns_hit p r a _ (fun hm => h (by simp [hm]))]
    simp [Nat.add_assoc, Nat.add_comm 1]
theorem lns_miss (p : Nat) : ∀ (a cur : List UInt8), (10 : UInt8) ∉ a → lns p cur a = if cur ++ a = [] then [] else [(p, cur ++ a)]
  | [], cur, _ => by simp [lns]
  | c :: a, cur, h => by
    rw [lns, if_neg (fun e => h (by simp [e])), lns_miss p a _ (fun hm => h (by simp [hm]))]
    simp
theorem nl_split (l : List UInt8) : (10 : UInt8) ∉ l ∨ ∃ a r, l = a ++ 10 :: r ∧ (10 : UInt8) ∉ a := by
  induction l with
  | nil => exact .inl (by simp)
  | cons c l ih =>
    by_cases hc : c = 10
    · exact .inr ⟨[], l, by simp [hc], by simp⟩
    · rcases ih with h | ⟨a, r, h1, h2⟩
      · refine .inl fun hm => ?_
        rcases List.mem_cons.1 hm with e | hm
        · exact hc e.symm
        · exact h hm
      · refine .inr ⟨c :: a, r, by rw [h1]; rfl, fun hm => ?_⟩
        rcases List.mem_cons.1 hm with e | hm
        · exact hc e.symm
        · exact h2 hm

/-! ## a text read -/
def parseM (C : List Tab) : List (Nat × List UInt8) → List Tab × Nat × Int
  | [] => (C, 0, 0)
  | (p, l) :: r => match tabL l with
    | none => ([], p, 212)
    | some t => if addE C t = 0 then parseM (C ++ [t]) r else ([], p, 212)
theorem tabL_none {l : List UInt8} (h : (10 : UInt8) ∉ l) : tabL l = none := by
  unfold tabL
  rw [if_neg]
  intro hs
  rw [suffix_nl hs] at h
  simp at h
theorem add_zero {C : List Tab} {t : Tab} (h : addE C t = 0) : isTab t = true ∧ isCat (C ++ [t]) = true := by
  unfold addE at h
  split at h
  · cases h
  · rename_i h1
    have hC : isCat C = true := by simpa using h1
    split at h
    · cases h
    · rename_i h2
      have ht : isTab t = true := by simpa using h2
      split at h
      · cases h
      · rename_i h3
        split at h
        · cases h
        · rename_i h4
          have hl := cat_len hC
          refine ⟨ht, cat_append hC ht (fun hm => h3 ?_) (by omega)⟩
          have := (fnd_mem (ns := C.map Tab.n) (s := t.n)).2 hm
          rwa [List.length_map] at this
theorem add_of {C : List Tab} {t : Tab} (h : isCat (C ++ [t]) = true) : addE C t = 0 := by
  have h1 := cat_len h
  have h2 := cat_nodup h
  have h3 := cat_tab h
  rw [List.map_append, List.nodup_append] at h2
  have hC : isCat C = true := cat_mk (by simp at h1; omega) h2.1 (fun x hx => h3 x (by simp [hx]))
  have ht : isTab t = true := h3 t (by simp)
  have hn : t.n ∉ C.map Tab.n := fun hm => h2.2.2 _ hm _ (by simp) rfl
  have hf : ¬ fnd (C.map Tab.n) t.n < C.length := fun hlt => by
    have := (fnd_mem (ns := C.map Tab.n) (s := t.n)).1 (by rw [List.length_map]; exact hlt)
    exact hn this
  unfold addE
  rw [if_neg (by simp [hC]), if_neg (by simp [ht]), if_neg hf, if_neg (by simp at h1; omega)]
theorem cat_prefix {C D : List Tab} (h : isCat (C ++ D) = true) : isCat C = true := by
  have h1 := cat_len h
  have h2 := cat_nodup h
  rw [List.map_append, List.nodup_append] at h2
  exact cat_mk (by simp at h1; omega) h2.1 (fun x hx => cat_tab h x (by simp [hx]))
/-- what Print lays is read -/
theorem parse_print : ∀ (D C : List Tab) (p : Nat), isCat (C ++ D) = true → parseM C (lns p [] (printC D)) = (C ++ D, 0, 0)
  | [], C, p, _ => by simp [printC, lns, parseM]
  | t :: D, C, p, h => by
    have h' : isCat ((C ++ [t]) ++ D) = true := by simpa using h
    have ht : isTab t = true := cat_tab h t (by simp)
    obtain ⟨x, e1, e2⟩ := line_end ht
    have e : printC (t :: D) = x ++ 10 :: printC D := by
      unfold printC
      rw [List.flatMap_cons, e1]; simp
    rw [e, lns_hit _ _ _ _ e2]
    have e3 : ([] : List UInt8) ++ x ++ [10] = lineB t := by rw [e1]; rfl
    rw [e3, parseM, read_of_line ht]
    dsimp only
    rw [if_pos (add_of (cat_prefix h')), parse_print D (C ++ [t]) _ h']
    simp
/-- what is read prints as the text -/
theorem print_parse : ∀ (n : Nat) (l : List UInt8) (C D : List Tab) (p q : Nat), l.length ≤ n → isCat C = true → parseM C (lns p [] l) = (D, q, 0) → isCat D = true ∧ printC D = printC C ++ l ∧ q = 0
  | 0, l, C, D, p, q, hn, hC, h => by
    obtain rfl : l = [] := List.eq_nil_of_length_eq_zero (by omega)
    simp [lns, parseM] at h
    obtain ⟨rfl, rfl⟩ := h
    exact ⟨hC, by simp, rfl⟩
  | n + 1, l, C, D, p, q, hn, hC, h => by
    rcases nl_split l with h1 | ⟨a, r, rfl, h2⟩
    · rw [lns_miss _ _ _ h1] at h
      by_cases hl : l = []
      · subst hl
        simp [parseM] at h
        obtain ⟨rfl, rfl⟩ := h
        exact ⟨hC, by simp, rfl⟩
      · rw [if_neg (by simpa using hl), parseM, List.nil_append, tabL_none h1] at h
        simp at h
    · rw [lns_hit _ _ _ _ h2, parseM, List.nil_append] at h
      cases ht : tabL (a ++ [10]) with
      | none => rw [ht] at h; simp at h
      | some t =>
        rw [ht] at h
        dsimp only at h
        split at h
        · rename_i ha
          obtain ⟨g1, g2⟩ := add_zero ha
          obtain ⟨r1, r2, r3⟩ := print_parse n r (C ++ [t]) D _ q (by simp at hn; omega) g2 h
          refine ⟨r1, ?_, r3⟩
          rw [r2]
          unfold printC
          rw [List.flatMap_append, List.append_assoc]
          simp [line_of_read ht g1]
        · simp at h
/-- where a text is wrong -/
theorem parse_wrong : ∀ (n : Nat) (l : List UInt8) (C D : List Tab) (p q : Nat) (e : Int), l.length ≤ n → parseM C (lns p [] l) = (D, q, e) → e ≠ 0 →
    e = 212 ∧ D = [] ∧ ∃ pre a r, l = pre ++ a ++ r ∧ q = p + pre.length ∧ (pre = [] ∨ pre.getLast? = some 10) ∧ a ≠ [] ∧
      (((10 : UInt8) ∉ a ∧ r = []) ∨ ∃ x, a = x ++ [10] ∧ (10 : UInt8) ∉ x ∧ ∀ m, parseM C (lns p [] (pre ++ a ++ m)) = ([], q, 212))
  | 0, l, C, D, p, q, e, hn, h, he => by
    obtain rfl : l = [] := List.eq_nil_of_length_eq_zero (by omega)
    simp [lns, parseM] at h
    exact absurd h.2.2.symm he
  | n + 1, l, C, D, p, q, e, hn, h, he => by
    rcases nl_split l with h1 | ⟨a, r, rfl, h2⟩
    · rw [lns_miss _ _ _ h1] at h
      by_cases hl : l = []
      · subst hl
        simp [parseM] at h
        exact absurd h.2.2.symm he
      · rw [if_neg (by simpa using hl), parseM, List.nil_append, tabL_none h1] at h
        simp at h
        obtain ⟨rfl, rfl, rfl⟩ := h
        exact ⟨rfl, rfl, [], l, [], by simp, by simp, .inl rfl, hl, .inl ⟨h1, rfl⟩⟩
    · rw [lns_hit _ _ _ _ h2, parseM, List.nil_append] at h
      have hbad : ∀ (hb : ∀ m, parseM C (lns p [] ([] ++ (a ++ [10]) ++ m)) = ([], p, 212)) (hh : ([], p, (212 : Int)) = (D, q, e)), e = 212 ∧ D = [] ∧ ∃ pre a' r', a ++ 10 :: r = pre ++ a' ++ r' ∧ q = p + pre.length ∧ (pre = [] ∨ pre.getLast? = some 10) ∧ a' ≠ [] ∧
          (((10 : UInt8) ∉ a' ∧ r' = []) ∨ ∃ x, a' = x ++ [10] ∧ (10 : UInt8) ∉ x ∧ ∀ m, parseM C (lns p [] (pre ++ a' ++ m)) = ([], q, 212)) := by
        intro hb hh
        simp at hh
        obtain ⟨rfl, rfl, rfl⟩ := hh
        exact ⟨rfl, rfl, [], a ++ [10], r, by simp, by simp, .inl rfl, by simp, .inr ⟨a, rfl, h2, hb⟩⟩
      cases ht : tabL (a ++ [10]) with
      | none =>
        rw [ht] at h
        refine hbad (fun m => ?_) h
        have : [] ++ (a ++ [10]) ++ m = a ++ 10 :: m := by simp
        rw [this, lns_hit _ _ _ _ h2, parseM, List.nil_append, ht]
      | some t =>
        rw [ht] at h
        dsimp only at h
        split at h
        · rename_i ha
          obtain ⟨r0, r1, pre, a', r', r2, r3, r4, r5, r6⟩ := parse_wrong n r (C ++ [t]) D _ q e (by simp at hn; omega) h he
          refine ⟨r0, r1, a ++ 10 :: pre, a', r', by rw [r2]; simp, by rw [r3]; simp; omega, .inr ?_, r5, ?_⟩
          · rcases r4 with rfl | r4
            · simp
            · have hpre : pre ≠ [] := by rintro rfl; simp at r4
              rw [List.getLast?_append, List.getLast?_cons]
              simp [List.getLast?_eq_some_getLast hpre] at r4 ⊢
              simp [r4]
          · rcases r6 with r6 | ⟨x, r6, r7, r8⟩
            · exact .inl r6
            · refine .inr ⟨x, r6, r7, fun m => ?_⟩
              have : a ++ 10 :: pre ++ a' ++ m = a ++ 10 :: (pre ++ a' ++ m) := by simp
              rw [this, lns_hit _ _ _ _ h2, parseM, List.nil_append, ht]
              dsimp only
              rw [if_pos ha]
              exact r8 m
        · rename_i ha
          refine hbad (fun m => ?_) h
          have : [] ++ (a ++ [10]) ++ m = a ++ 10 :: m := by simp
          rw [this, lns_hit _ _ _ _ h2, parseM, List.nil_append, ht]
          dsimp only
          rw [if_neg ha]
def parseL (l : List UInt8) : List Tab × Nat × Int := if 1000 < l.length then ([], 0, 3) else parseM [] (lns 0 [] l)
end Go.Proofs.YtjmfcjidhmaibaaGreatDoor
