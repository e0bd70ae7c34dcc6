/-
  Which columns, tables and catalogs may be.
-/
import Derived.Test.YtjmfcjidhmaibaaGreatDoorCatF
namespace Go.Proofs.YtjmfcjidhmaibaaGreatDoor
open Go.RowKit
open Go.Lib hiding intOf
set_option linter.unusedVariables false

theorem kindsV_at (k : Nat) (hk : k < 4) : kindsV[k]? = some (.string (B (kw k))) := by
  match k, hk with
  | 0, _ => rfl
  | 1, _ => rfl
  | 2, _ => rfl
  | 3, _ => rfl
theorem wordOf_any (w : World) (k : Int) (hG : Glob w) :
    Calls Tryz.prog 37 #[.int .i64 k] w fun e w' => e = .returned (.string (B (kw k))) ∧ Ext [] w w' := by
  by_cases h0 : 0 ≤ k ∧ k < 4
  · obtain ⟨n, rfl⟩ : ∃ n : Nat, k = n := ⟨k.toNat, by omega⟩
    have hn : n < 4 := by omega
    obtain ⟨t, fr, hg⟩ := hG.kinds
    have hv := kindsV_at n hn
    have hc : w.cell? ⟨0, n, none⟩ = some (.string (B (kw n))) := by simp [World.cell?, hg, hv]
    clear hg hv h0
    go_enter Tryz.func37, Tryz.ntmps37
    go_wp2
    go_ret
    exact ⟨rfl, Ext.refl _ _⟩
  · have hk : kw k = [] := by rw [kw_nil]; omega
    rw [hk]
    by_cases h1 : k < 0
    · go_enter Tryz.func37, Tryz.ntmps37
      go_wp2
      go_ret
      exact ⟨rfl, Ext.refl _ _⟩
    · have h2 : 4 ≤ k := by omega
      clear h0
      go_enter Tryz.func37, Tryz.ntmps37
      go_wp2
      go_ret
      exact ⟨rfl, Ext.refl _ _⟩

theorem isEmpty_B (l : List UInt8) : (!(B l).toList.isEmpty) = decide (l ≠ []) := by
  rw [ByteArray.toList_eq]
  show (!l.isEmpty) = _
  cases l <;> simp
theorem empty_ne (l : List UInt8) : ((B l).toList != (⟨#[]⟩ : ByteArray).toList) = decide (l ≠ []) := by
  have := toList_eq (B l) ⟨#[]⟩
  rw [bne, this]
  by_cases h : l = []
  · subst h; rfl
  · have : ¬ B l = ⟨#[]⟩ := fun e => h (B_inj.1 e)
    simp [h, this]
set_option maxHeartbeats 1000000 in
theorem isColumn_any (w : World) (n : ByteArray) (k : Int) (hG : Glob w) :
    Calls Tryz.prog 53 #[CV n k] w fun e w' => e = .returned (.bool (isCol ⟨n, k⟩)) ∧ Ext [] w w' := by
  have hE := (Ext.refl [] w).alloc (.cells #[.string n, .int .i64 k] 67)
  have d0 := new_cells w [.string n, .int .i64 k] 67 0 _ rfl
  have d1 := new_cells w [.string n, .int .i64 k] 67 1 _ rfl
  have hne := empty_ne (kw k)
  have hG1 := hG.ext hE
  have hi := fun W (g : Glob W) => IsName_any W n g
  have hw := fun W (g : Glob W) => wordOf_any W k g
  have hc : isCol ⟨n, k⟩ = (isName (L n) && decide (kw k ≠ [])) := rfl
  rw [hc]
  clear hc
  cases hN : isName (L n)
  · rw [hN] at hi
    clear hN hne hw
    go_enter Tryz.func53, Tryz.ntmps53
    go_wp2_with (first
      | (go_at_call 51; (with_reducible refine (hi _ hG1).mono ?_); rintro e w1 ⟨rfl, x1⟩))
    go_ret
    exact ⟨rfl, hE.trans x1⟩
  · rw [hN] at hi
    clear hN
    go_enter Tryz.func53, Tryz.ntmps53
    go_wp2_with (first
      | (go_at_call 51; (with_reducible refine (hi _ hG1).mono ?_); rintro e w1 ⟨rfl, x1⟩; have d2 := cells_ext x1 d1)
      | (go_at_call 37; (with_reducible refine (hw _ (hG1.ext x1)).mono ?_); rintro e w2 ⟨rfl, x2⟩))
    go_ret
    exact ⟨ret_bool (by rw [isEmpty_B]; rfl), (hE.trans x1).trans x2⟩
set_option maxHeartbeats 1000000 in
theorem areKeys_any (w : World) (v : Value) (ob : Nat) (l : List Int) (n : Int) (h : Is w v ob l) (hl : l.length ≤ maxLen) (hn : n ≤ 9223372036854775807) :
    Calls Tryz.prog 54 #[v, .int .i64 n] w fun e w' => e = .returned (.bool (areKeys n 0 l)) ∧ w = w' := by
  obtain ⟨a, c, rfl⟩ := h.shape
  unfold maxLen at hl
  go_enter Tryz.func54, Tryz.ntmps54
  go_wp2
  go_loop [10, 5] (fun i least => ∃ (k : Nat) (m : Int), k ≤ l.length ∧ i = .int .i64 k ∧ least = .int .i64 m ∧ 0 ≤ m ∧ m ≤ 9223372036854775807 ∧ Hid (areKeys n m (l.drop k) = areKeys n 0 l)) (fun i least => l.length - (intOf i).toNat)
  case atStart => exact ⟨0, 0, by omega, rfl, rfl, by omega, by omega, rfl⟩
  case round =>
    obtain ⟨k, m, hk, rfl, rfl, hm0, hm1, hS⟩ := hrel
    by_cases hlt : k < l.length
    · obtain ⟨o, K, rfl, hx, c0⟩ := h.at k hlt
      have hd : areKeys n 0 l = (decide (m ≤ K) && decide (K < n) && areKeys n (K + 1) (l.drop (k + 1))) := by
        rw [← hS.out, List.drop_eq_getElem_cons hlt, (List.getElem?_eq_some_iff.1 hx).2]
        rfl
      by_cases h1 : m ≤ K ∧ K < n
      · have HS : Hid (areKeys n (K + 1) (l.drop (k + 1)) = areKeys n 0 l) := by
          show _ = _
          rw [hd, decide_eq_true h1.1, decide_eq_true h1.2]; rfl
        obtain ⟨h1, h2⟩ := h1
        have q1 : decide (K < m) = false := by simp; omega
        have q2 : decide (n ≤ K) = false := by simp; omega
        clear hd hS hx
        go_wp2
        go_round
        case rel => exact ⟨k + 1, K + 1, by omega, by go_num, by go_num, by omega, by omega, HS⟩
        case measure => simp [intOf]; omega
      · have HS : Hid (areKeys n 0 l = false) := by
          show _ = _
          rw [hd]
          by_cases h2 : m ≤ K
          · have : ¬ K < n := fun h => h1 ⟨h2, h⟩
            simp [this]
          · simp [h2]
        have q : (decide (K < m) || decide (n ≤ K)) = true := by simp; omega
        by_cases h2 : K < m
        · clear hd hS hx q
          go_wp2
          go_ret
          exact ⟨ret_bool HS.out.symm, rfl⟩
        · have q1 : decide (K < m) = false := by simp; omega
          have q2 : decide (n ≤ K) = true := by simp; omega
          clear hd hS hx q
          go_wp2
          go_ret
          exact ⟨ret_bool HS.out.symm, rfl⟩
    · have HS : Hid (areKeys n 0 l = true) := by
        show _ = _
        rw [← hS.out, List.drop_eq_nil_of_le (by omega)]
        rfl
      go_wp2
      go_ret
      exact ⟨ret_bool HS.out.symm, rfl⟩
set_option maxHeartbeats 1000000 in
theorem fits_col (w : World) (v : Value) (ob : Nat) (l : List Col) (hC : Cs w v ob l) (hG : Glob w) (h1 : 1 ≤ l.length) (h4 : l.length ≤ 4) :
    Calls Tryz.prog 52 #[v, .int .i64 1, .int .i64 4, .func (.func 33) #[] #[], .func (.func 53) #[] #[]] w fun e w' => e = .returned (.bool (fitsL Col.n isCol l)) ∧ Ext [] w w' := by
  obtain ⟨a, c, rfl⟩ := hC.shape
  have q1 : decide ((l.length : Int) < 1) = false := by simp; omega
  have q2 : decide ((4 : Int) < (l.length : Int)) = false := by simp; omega
  go_enter Tryz.func52, Tryz.ntmps52
  go_wp2_with (fail)
  go_loopw [27] (fun i wr => ∃ k : Nat, k ≤ l.length ∧ i = .int .i64 k ∧ Ext [] w wr ∧ Hid (∀ (j : Nat) x, j < k → l[j]? = some x → fnd (l.map Col.n) (Col.n x) = j ∧ isCol x = true)) (fun i _ => l.length - (intOf i).toNat)
  case atStart => exact ⟨0, by omega, rfl, Ext.refl _ _, fun j x h => by omega⟩
  case round =>
    obtain ⟨k, hk, rfl, hX, hS⟩ := hrel
    by_cases hlt : k < l.length
    · obtain ⟨o, N, K, rfl, hx, c0, c1⟩ := (hC.ext hX (by simp)).at k hlt
      have hE := (Ext.refl [] wr).alloc (.cells #[.string N, .int .i64 K] 67)
      have d0 := new_cells wr [.string N, .int .i64 K] 67 0 _ rfl
      have d1 := new_cells wr [.string N, .int .i64 K] 67 1 _ rfl
      have hmem : N ∈ l.map Col.n := List.mem_of_getElem? (i := k) (by rw [List.getElem?_map, hx]; rfl)
      have hf := fnd_mem.2 hmem
      rw [List.length_map] at hf
      have fc := fun W (x : Ext [] w W) => find_col W _ ob l N (hC.ext x (by simp)) (by unfold maxLen; omega)
      have ic := fun W (g : Glob W) => isColumn_any W N K g
      rw [decide_eq_true hf, show fnd0 l.length (fnd (l.map Col.n) N) = (fnd (l.map Col.n) N : Int) by unfold fnd0; rw [if_pos hf]] at fc
      by_cases hm : fnd (l.map Col.n) N = k
      · cases hcl : isCol ⟨N, K⟩
        · have HS := Lib.hid (fitsL_no (f := Col.n) (q := isCol) hx (Or.inr hcl))
          rw [hcl] at ic
          rw [hm] at fc
          clear hcl hx hmem hf hm hS
          go_upto_region 6 with (fail)
          generalize wr.alloc (.cells #[.string N, .int .i64 K] 67) = W at *
          generalize wr.heap.size = b at *
          go_wp2_with (first
            | (go_at_call 33; (with_reducible refine (nameOfColumn_any _ _ _).mono ?_); rintro e w1 ⟨rfl, x1⟩)
            | (go_at_call 32; (with_reducible refine (fc _ ((hX.trans hE).trans x1)).mono ?_); rintro e w2 ⟨rfl, x2⟩; have e0 := cells_ext x2 (cells_ext x1 d0); have e1 := cells_ext x2 (cells_ext x1 d1))
            | (go_at_call 53; (with_reducible refine (ic _ (hG.ext (((hX.trans hE).trans x1).trans x2))).mono ?_); rintro e w3 ⟨rfl, x3⟩))
          go_ret
          exact ⟨ret_bool HS.out.symm, (((hX.trans hE).trans x1).trans x2).trans x3⟩
        · have HS : Hid (∀ (j : Nat) x, j < k + 1 → l[j]? = some x → fnd (l.map Col.n) (Col.n x) = j ∧ isCol x = true) := by
            intro j x hj hjx
            by_cases e : j = k
            · subst e
              rw [hx] at hjx
              obtain rfl := Option.some.inj hjx
              exact ⟨hm, hcl⟩
            · exact hS.out j x (by omega) hjx
          rw [hcl] at ic
          rw [hm] at fc
          clear hcl hx hmem hf hm hS
          go_upto_region 6 with (fail)
          generalize wr.alloc (.cells #[.string N, .int .i64 K] 67) = W at *
          generalize wr.heap.size = b at *
          go_wp2_with (first
            | (go_at_call 33; (with_reducible refine (nameOfColumn_any _ _ _).mono ?_); rintro e w1 ⟨rfl, x1⟩)
            | (go_at_call 32; (with_reducible refine (fc _ ((hX.trans hE).trans x1)).mono ?_); rintro e w2 ⟨rfl, x2⟩; have e0 := cells_ext x2 (cells_ext x1 d0); have e1 := cells_ext x2 (cells_ext x1 d1))
            | (go_at_call 53; (with_reducible refine (ic _ (hG.ext (((hX.trans hE).trans x1).trans x2))).mono ?_); rintro e w3 ⟨rfl, x3⟩))
          go_roundw
          case rel => exact ⟨k + 1, by omega, by go_num, (((hX.trans hE).trans x1).trans x2).trans x3, HS⟩
          case measure => simp [intOf]; omega
      · have HS := Lib.hid (fitsL_no (f := Col.n) (q := isCol) hx (Or.inl hm))
        have q3 : ((fnd (l.map Col.n) N : Int) != (k : Int)) = true := by simp; omega
        generalize fnd (l.map Col.n) N = m at *
        clear hx hmem hm hS ic
        go_upto_region 6 with (fail)
        generalize wr.alloc (.cells #[.string N, .int .i64 K] 67) = W at *
        generalize wr.heap.size = b at *
        go_wp2_with (first
          | (go_at_call 33; (with_reducible refine (nameOfColumn_any _ _ _).mono ?_); rintro e w1 ⟨rfl, x1⟩)
          | (go_at_call 32; (with_reducible refine (fc _ ((hX.trans hE).trans x1)).mono ?_); rintro e w2 ⟨rfl, x2⟩; have e0 := cells_ext x2 (cells_ext x1 d0); have e1 := cells_ext x2 (cells_ext x1 d1)))
        go_ret
        exact ⟨ret_bool HS.out.symm, ((hX.trans hE).trans x1).trans x2⟩
    · have HS : Hid (fitsL Col.n isCol l = true) := by
        refine fitsL_yes fun j x hx => hS.out j x ?_ hx
        have := (List.getElem?_eq_some_iff.1 hx).1
        omega
      clear hS
      go_wp2
      go_ret
      exact ⟨ret_bool HS.out.symm, hX⟩
theorem fits_col_no (w : World) (v : Value) (ob : Nat) (l : List Col) (hC : Cs w v ob l) (h : l.length < 1 ∨ 4 < l.length) :
    Calls Tryz.prog 52 #[v, .int .i64 1, .int .i64 4, .func (.func 33) #[] #[], .func (.func 53) #[] #[]] w fun e w' => e = .returned (.bool false) ∧ Ext [] w w' := by
  obtain ⟨a, c, rfl⟩ := hC.shape
  by_cases h1 : l.length < 1
  · have q1 : decide ((l.length : Int) < 1) = true := by simp; omega
    go_enter Tryz.func52, Tryz.ntmps52
    go_wp2_with (fail)
    go_ret
    exact ⟨rfl, Ext.refl _ _⟩
  · have q1 : decide ((l.length : Int) < 1) = false := by simp; omega
    have q2 : decide ((4 : Int) < (l.length : Int)) = true := by simp; omega
    go_enter Tryz.func52, Tryz.ntmps52
    go_wp2_with (fail)
    go_ret
    exact ⟨rfl, Ext.refl _ _⟩
/-- what may be of columns, whatever their number -/
def colsOK (l : List Col) : Bool := (decide (1 ≤ l.length) && decide (l.length ≤ 4)) && fitsL Col.n isCol l
theorem fits_cols (w : World) (v : Value) (ob : Nat) (l : List Col) (hC : Cs w v ob l) (hG : Glob w) :
    Calls Tryz.prog 52 #[v, .int .i64 1, .int .i64 4, .func (.func 33) #[] #[], .func (.func 53) #[] #[]] w fun e w' => e = .returned (.bool (colsOK l)) ∧ Ext [] w w' := by
  unfold colsOK
  by_cases h : 1 ≤ l.length ∧ l.length ≤ 4
  · rw [decide_eq_true h.1, decide_eq_true h.2]
    exact fits_col w v ob l hC hG h.1 h.2
  · have : (decide (1 ≤ l.length) && decide (l.length ≤ 4)) = false := by
      by_cases h1 : 1 ≤ l.length
      · have : ¬ l.length ≤ 4 := fun h2 => h ⟨h1, h2⟩
        simp [this]
      · simp [h1]
    rw [this, Bool.false_and]
    exact fits_col_no w v ob l hC (by omega)
theorem isTab_eq (t : Tab) : isTab t = (isName (L t.n) && colsOK t.cols && areKeys t.cols.length 0 t.keys) := by
  unfold isTab colsOK; rfl
set_option maxHeartbeats 1000000 in
theorem isTable_any (w : World) (t : Tab) (a1 : Option Addr) (c1 : Nat) (a2 : Option Addr) (c2 : Nat) (oc ok : Nat) (hC : Cs w (.slice a1 t.cols.length c1) oc t.cols) (hK : Is w (.slice a2 t.keys.length c2) ok t.keys) (hl : t.cols.length ≤ maxLen) (hk : t.keys.length ≤ maxLen) (hG : Glob w) :
    Calls Tryz.prog 29 #[TV t.n (.slice a1 t.cols.length c1) (.slice a2 t.keys.length c2)] w fun e w' => e = .returned (.bool (isTab t)) ∧ Ext [] w w' := by
  rw [isTab_eq]
  obtain ⟨n, cs, ks⟩ := t
  dsimp only at *
  have hE := (Ext.refl [] w).alloc (.cells #[.string n, .slice a1 cs.length c1, .slice a2 ks.length c2] 41)
  have d0 := new_cells w [.string n, .slice a1 cs.length c1, .slice a2 ks.length c2] 41 0 _ rfl
  have d1 := new_cells w [.string n, .slice a1 cs.length c1, .slice a2 ks.length c2] 41 1 _ rfl
  have d2 := new_cells w [.string n, .slice a1 cs.length c1, .slice a2 ks.length c2] 41 2 _ rfl
  have hG1 := hG.ext hE
  have hi := fun W (g : Glob W) => IsName_any W n g
  have hf := fun W (x : Ext [] w W) => fits_cols W _ oc cs (hC.ext x (by simp)) (hG.ext x)
  have ha := fun W (x : Ext [] w W) => areKeys_any W _ ok ks cs.length (hK.ext x (by simp)) hk (by unfold maxLen at hl; omega)
  clear hC hK
  generalize areKeys cs.length 0 ks = bk at *
  generalize colsOK cs = bc at *
  generalize isName (L n) = bn at *
  cases bn
  · go_enter Tryz.func29, Tryz.ntmps29
    go_upto_region 1 with (fail)
    generalize w.alloc (.cells #[.string n, .slice a1 cs.length c1, .slice a2 ks.length c2] 41) = W at *
    generalize w.heap.size = b at *
    go_wp2_with (first
      | (go_at_call 51; (with_reducible refine (hi _ hG1).mono ?_); rintro e w1 ⟨rfl, x1⟩))
    go_ret
    exact ⟨rfl, hE.trans x1⟩
  · cases bc
    · go_enter Tryz.func29, Tryz.ntmps29
      go_upto_region 1 with (fail)
      generalize w.alloc (.cells #[.string n, .slice a1 cs.length c1, .slice a2 ks.length c2] 41) = W at *
      generalize w.heap.size = b at *
      go_wp2_with (first
        | (go_at_call 51; (with_reducible refine (hi _ hG1).mono ?_); rintro e w1 ⟨rfl, x1⟩; have e1 := cells_ext x1 d1; have e2 := cells_ext x1 d2)
        | (go_at_call 52; (with_reducible refine (hf _ (hE.trans x1)).mono ?_); rintro e w2 ⟨rfl, x2⟩))
      go_ret
      exact ⟨rfl, (hE.trans x1).trans x2⟩
    · go_enter Tryz.func29, Tryz.ntmps29
      go_upto_region 1 with (fail)
      generalize w.alloc (.cells #[.string n, .slice a1 cs.length c1, .slice a2 ks.length c2] 41) = W at *
      generalize w.heap.size = b at *
      go_wp2_with (first
        | (go_at_call 51; (with_reducible refine (hi _ hG1).mono ?_); rintro e w1 ⟨rfl, x1⟩; have e1 := cells_ext x1 d1; have e2 := cells_ext x1 d2)
        | (go_at_call 52; (with_reducible refine (hf _ (hE.trans x1)).mono ?_); rintro e w2 ⟨rfl, x2⟩; have f1 := cells_ext x2 e1; have f2 := cells_ext x2 e2)
        | (go_at_call 54; (with_reducible refine (ha _ ((hE.trans x1).trans x2)).mono ?_); rintro e w3 ⟨rfl, rfl⟩))
      go_ret
      exact ⟨rfl, (hE.trans x1).trans x2⟩
end Go.Proofs.YtjmfcjidhmaibaaGreatDoor
