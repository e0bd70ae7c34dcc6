
/-
  The reference's read, plainly: which words, with so many columns, say which table.
-/
import Derived.Test.YtjmfcjidhmaibaaGreatDoorCatZ
namespace Go.Proofs.YtjmfcjidhmaibaaGreatDoor
open Go.Lib
set_option linter.unusedVariables false

/-- the place of what is called so; -1: none -/
def keyI (cs : List Col) (w : W8) : Int := if fnd (cs.map Col.n) (B w) < cs.length then (fnd (cs.map Col.n) (B w) : Int) else -1
/-- what read builds of the words, with n columns -/
def readAt (ws : List W8) (n : Nat) : Tab := ⟨B (ws.getD 1 []), colsW ((ws.drop 2).take (2 * n)), ((ws.drop (2 + 2 * n)).drop 1).map (keyI (colsW ((ws.drop 2).take (2 * n))))⟩
/-- whether it comes so far -/
def readOk (ws : List W8) (n : Nat) : Bool := decide (2 + 2 * n ≤ ws.length) && decide (ws[0]? = some wTable) && (decide (ws.drop (2 + 2 * n) = []) || (decide (2 ≤ (ws.drop (2 + 2 * n)).length) && decide ((ws.drop (2 + 2 * n))[0]? = some wBy)))
theorem keyI_name {cs : List Col} {w : W8} (h : 0 ≤ keyI cs w) : L (nameAt cs (keyI cs w)) = w := by
  unfold keyI at *
  split
  · rename_i hlt
    have := fnd_lt (ns := cs.map Col.n) (s := B w) (by simpa using hlt)
    unfold nameAt
    rw [Int.toNat_natCast]
    rw [List.getElem?_map] at this
    rw [this]
    exact L_B w
  · rename_i hlt
    rw [if_neg hlt] at h
    omega
/-- of the words that a table is read of it is laid -/
theorem parts_readAt {ws : List W8} {n : Nat} (h : readOk ws n = true) (ht : isTab (readAt ws n) = true) : (tabParts (readAt ws n)).map L = ws := by
  unfold readOk at h
  simp only [Bool.and_eq_true, Bool.or_eq_true, decide_eq_true_eq] at h
  obtain ⟨⟨h1, h2⟩, h3⟩ := h
  obtain ⟨nm, r, rfl⟩ : ∃ nm r, ws = wTable :: nm :: r := by
    match ws, h1, h2 with
    | [], h1, _ => simp at h1
    | [x], h1, _ => simp at h1; omega
    | x :: nm :: r, _, h2 => exact ⟨nm, r, by simpa using h2⟩
  have hr : (wTable :: nm :: r).drop (2 + 2 * n) = r.drop (2 * n) := by rw [show 2 + 2 * n = (2 * n) + 1 + 1 by omega]; rfl
  have hl : 2 * n ≤ r.length := by simp at h1; omega
  have hk := isTab_kinds ht
  have hkeys := tab_keys ht
  unfold readAt at *
  rw [hr] at h3 ht hkeys hk ⊢
  simp only [List.drop_succ_cons, List.drop_zero, List.getD_cons_succ, List.getD_cons_zero] at *
  have e1 := parts_colsW (r.take (2 * n)) (by rw [List.length_take]; omega) hk
  have hw := List.take_append_drop (2 * n) r
  generalize r.take (2 * n) = r1 at *
  generalize r.drop (2 * n) = r2 at *
  unfold tabParts
  rw [List.map_append, List.map_append, List.map_append]
  dsimp only
  rw [e1]
  have hby : (byParts ((r2.drop 1).map (keyI (colsW r1)))).map L ++ (((r2.drop 1).map (keyI (colsW r1))).map (nameAt (colsW r1))).map L = r2 := by
    rcases h3 with rfl | ⟨h4, h5⟩
    · rfl
    · obtain ⟨b, rfl⟩ : ∃ b, r2 = wBy :: b := by
        match r2, h5 with
        | x :: b, h5 => exact ⟨b, by simpa using h5⟩
      have hb : b ≠ [] := by rintro rfl; simp at h4
      unfold byParts
      rw [if_neg (by simpa using hb)]
      simp only [List.drop_succ_cons, List.drop_zero, List.map_map] at *
      show [L bBy] ++ _ = _
      have : b.map (L ∘ nameAt (colsW r1) ∘ keyI (colsW r1)) = b := by
        conv => rhs; rw [← List.map_id b]
        refine List.map_congr_left fun w hw => ?_
        exact keyI_name (hkeys _ (List.mem_map_of_mem hw)).1
      rw [this]
      rfl
  rw [List.append_assoc, hby]
  show wTable :: L (B nm) :: (r1 ++ r2) = _
  rw [L_B, hw]
/-- and of a table's words the table is read, with as many columns as it has -/
theorem readAt_parts {t : Tab} (h : isTab t = true) : readOk ((tabParts t).map L) t.cols.length = true ∧ readAt ((tabParts t).map L) t.cols.length = t := by
  have e : (tabParts t).map L = wTable :: L t.n :: ((colParts t.cols).map L ++ ((byParts t.keys).map L ++ (t.keys.map (nameAt t.cols)).map L)) := by
    unfold tabParts
    rw [List.map_append, List.map_append, List.map_append, List.append_assoc]
    rfl
  have hlen : ((colParts t.cols).map L).length = 2 * t.cols.length := by rw [List.length_map, colParts_length]
  have ec := colsW_parts _ (isTab_kinds h)
  have hkeys := tab_keys h
  have hnd := isTab_nodup h
  rw [e]
  generalize hA : (colParts t.cols).map L = A at *
  have hd : (wTable :: L t.n :: (A ++ ((byParts t.keys).map L ++ (t.keys.map (nameAt t.cols)).map L))).drop (2 + 2 * t.cols.length) = (byParts t.keys).map L ++ (t.keys.map (nameAt t.cols)).map L := by
    rw [show 2 + 2 * t.cols.length = (2 * t.cols.length) + 1 + 1 by omega, List.drop_succ_cons, List.drop_succ_cons, List.drop_left' hlen]
  have ht : ((wTable :: L t.n :: (A ++ ((byParts t.keys).map L ++ (t.keys.map (nameAt t.cols)).map L))).drop 2).take (2 * t.cols.length) = A := by
    rw [List.drop_succ_cons, List.drop_succ_cons, List.drop_zero, List.take_left' hlen]
  constructor
  · unfold readOk
    rw [hd]
    simp only [Bool.and_eq_true, Bool.or_eq_true, decide_eq_true_eq]
    refine ⟨⟨by simp [hlen]; omega, rfl⟩, ?_⟩
    unfold byParts
    by_cases hk : t.keys = []
    · left; rw [if_pos hk, hk]; rfl
    · right; rw [if_neg hk]
      have : t.keys.length ≠ 0 := by simpa using hk
      exact ⟨by simp; omega, rfl⟩
  · unfold readAt
    rw [hd, ht, ec]
    have hK : ((((byParts t.keys).map L ++ (t.keys.map (nameAt t.cols)).map L).drop 1).map (keyI t.cols)) = t.keys := by
      unfold byParts
      by_cases hk : t.keys = []
      · rw [if_pos hk, hk]; rfl
      · rw [if_neg hk]
        show ((t.keys.map (nameAt t.cols)).map L).map (keyI t.cols) = t.keys
        rw [List.map_map, List.map_map]
        conv => rhs; rw [← List.map_id t.keys]
        refine List.map_congr_left fun k hk' => ?_
        obtain ⟨k0, k1⟩ := hkeys k hk'
        have hlt : k.toNat < t.cols.length := by omega
        have hn : nameAt t.cols k = (t.cols[k.toNat]).n := by unfold nameAt; rw [List.getElem?_eq_getElem hlt]; rfl
        have hf : fnd (t.cols.map Col.n) (nameAt t.cols k) = k.toNat := (nodup_fnd _).2 hnd k.toNat _ (by rw [hn, List.getElem?_map, List.getElem?_eq_getElem hlt]; rfl)
        show keyI t.cols (L (nameAt t.cols k)) = k
        unfold keyI
        rw [B_L, hf, if_pos hlt]
        omega
    rw [hK]
    show Tab.mk (B (L t.n)) t.cols t.keys = t
    rw [B_L]
/-- what the reference's Read answers of a line's words -/
def readM (ws : List W8) : Option Tab := [1, 2, 3, 4].findSome? fun n => if readOk ws n = true ∧ isTab (readAt ws n) = true then some (readAt ws n) else none
theorem readM_some {ws : List W8} {t : Tab} (h : readM ws = some t) : ∃ n, 1 ≤ n ∧ n ≤ 4 ∧ readOk ws n = true ∧ isTab (readAt ws n) = true ∧ readAt ws n = t := by
  unfold readM at h
  obtain ⟨n, hn, h⟩ := List.exists_of_findSome?_eq_some h
  split at h
  · rename_i hc
    refine ⟨n, ?_, ?_, hc.1, hc.2, Option.some.inj h⟩
    · simp at hn; omega
    · simp at hn; omega
  · cases h
theorem readM_line {s : List UInt8} {t : Tab} (h : readM (wds s) = some t) : isTab t = true ∧ lineB t = s ++ [10] := by
  obtain ⟨n, _, _, h1, h2, rfl⟩ := readM_some h
  refine ⟨h2, ?_⟩
  unfold lineB
  rw [parts_readAt h1 h2, wds_join]
theorem readM_of {s : List UInt8} {t : Tab} (h : isTab t = true) (hl : lineB t = s ++ [10]) : readM (wds s) = some t := by
  have hs : s = join ((tabParts t).map L) [32] := by
    unfold lineB at hl
    exact (List.append_cancel_right hl).symm
  have hw : wds s = (tabParts t).map L := by
    rw [hs]
    exact wds_of_join _ (parts_ne t) (fun w hw hm => (parts_word h w hw 32 hm).1 rfl)
  obtain ⟨r1, r2⟩ := readAt_parts h
  have hc : 1 ≤ t.cols.length ∧ t.cols.length ≤ 4 := by
    unfold isTab at h
    simp only [Bool.and_eq_true, decide_eq_true_eq] at h
    exact ⟨h.1.2.1.1, h.1.2.1.2⟩
  cases hm : readM (wds s) with
  | none =>
    unfold readM at hm
    rw [List.findSome?_eq_none_iff] at hm
    have := hm t.cols.length (by simp; omega)
    rw [hw, r1, r2, if_pos ⟨rfl, h⟩] at this
    cases this
  | some u =>
    obtain ⟨h1, h2⟩ := readM_line hm
    rw [line_inj h1 h (h2.trans hl.symm)]
/-- the reference's Read answers the table that the line says, if it may be -/
theorem readM_tab {s : List UInt8} {t : Tab} : readM (wds s) = some t ↔ tabL (s ++ [10]) = some t ∧ isTab t = true := by
  constructor
  · intro h
    obtain ⟨h1, h2⟩ := readM_line h
    exact ⟨h2 ▸ read_of_line h1, h1⟩
  · rintro ⟨h1, h2⟩
    exact readM_of h2 (line_of_read h1 h2)
theorem readM_none {s : List UInt8} (h : readM (wds s) = none) : ∀ t, tabL (s ++ [10]) = some t → isTab t = false := by
  intro t ht
  cases hi : isTab t
  · rfl
  · rw [readM_tab.2 ⟨ht, hi⟩] at h
    cases h
end Go.Proofs.YtjmfcjidhmaibaaGreatDoor
