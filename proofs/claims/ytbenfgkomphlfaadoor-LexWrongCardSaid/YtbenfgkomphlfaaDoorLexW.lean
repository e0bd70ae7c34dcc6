/-
  Plain mathematics: what is wrong stays wrong, whatever stands behind a blank.
-/
import Derived.Test.YtbenfgkomphlfaaDoorLexU
namespace Go.Proofs.YtbenfgkomphlfaaDoor
open Go.Lib
set_option linter.unusedVariables false

theorem qscan_behind : ∀ (r acc : List UInt8) (k : Nat) (x : List UInt8 × Nat) (m : List UInt8), qscan r acc k = some x → qscan (r ++ 32 :: m) acc k = some x
  | [], acc, k, x, m, h => by rw [qscan_nil] at h; cases h
  | [c], acc, k, x, m, h => by
    by_cases hc : c = 39
    · subst hc
      rw [qscan_end] at h
      rw [List.cons_append, List.nil_append, qscan_stop _ _ _ (by decide), h]
    · rw [qscan_plain _ _ _ hc, qscan_nil] at h; cases h
  | c :: d :: r, acc, k, x, m, h => by
    by_cases hc : c = 39
    · subst hc
      by_cases hd : d = 39
      · subst hd
        rw [qscan_two] at h
        rw [List.cons_append, List.cons_append, qscan_two]
        exact qscan_behind r _ _ x m h
      · rw [qscan_stop _ _ _ hd] at h
        rw [List.cons_append, List.cons_append, qscan_stop _ _ _ hd, h]
    · rw [qscan_plain _ _ _ hc] at h
      rw [List.cons_append, qscan_plain _ _ _ hc]
      exact qscan_behind (d :: r) _ _ x m h
theorem signOf_behind (c : UInt8) (r m : List UInt8) : signOf (c :: r ++ 32 :: m) = signOf (c :: r) := by
  unfold signOf
  congr 1
  have : ∀ g ∈ signsL, hasPrefix (c :: r ++ 32 :: m) g = hasPrefix (c :: r) g := by
    intro g hg
    cases r with
    | nil =>
      simp only [signsL, List.mem_cons, List.mem_nil_iff, or_false] at hg
      rcases hg with rfl | rfl | rfl | rfl | rfl | rfl | rfl | rfl | rfl | rfl | rfl | rfl | rfl | rfl <;> simp [hasPrefix, List.isPrefixOf]
    | cons d r =>
      simp only [signsL, List.mem_cons, List.mem_nil_iff, or_false] at hg
      rcases hg with rfl | rfl | rfl | rfl | rfl | rfl | rfl | rfl | rfl | rfl | rfl | rfl | rfl | rfl <;> simp [hasPrefix, List.isPrefixOf]
  revert this
  generalize signsL = gs
  intro this
  induction gs with
  | nil => rfl
  | cons g gs ih =>
    rw [List.find?_cons, List.find?_cons, this g (by simp), ih (fun x hx => this x (by simp [hx]))]
theorem first_behind (c : UInt8) (r m : List UInt8) (h : c ≠ 39 ∨ (first (c :: r)).2 ≠ 0) : first (c :: r ++ 32 :: m) = first (c :: r) := by
  have ha : ahead cAlnum (c :: r ++ 32 :: m) = ahead cAlnum (c :: r) := ahead_append cAlnum (c :: r) 32 m (by decide)
  have hle := ahead_le cAlnum (c :: r)
  unfold first at h ⊢
  rw [ha]
  split
  · rw [List.take_append_of_le_length hle]
  · rename_i h1
    rw [if_neg h1] at h
    have hp : hasPrefix (c :: r ++ 32 :: m) [39] = hasPrefix (c :: r) [39] := by simp [hasPrefix, List.isPrefixOf]
    rw [hp]
    by_cases h2 : hasPrefix (c :: r) [39] = true
    · rw [if_pos h2, if_pos h2]
      rw [if_pos h2] at h
      have hc : c = 39 := by
        have : (39 == c && true) = true := h2
        rw [Bool.and_true, beq_iff_eq] at this
        exact this.symm
      rcases h with h | h
      · exact absurd hc h
      · unfold quoted at h ⊢
        simp only [List.cons_append, List.drop_one, List.tail_cons] at h ⊢
        cases hq : qscan r [] 1 with
        | none => rw [hq] at h; exact absurd rfl h
        | some x => rw [qscan_behind r [] 1 x m hq]
    · rw [if_neg h2, if_neg h2, signOf_behind]
theorem scan_behind : ∀ (l : List UInt8) (p k : Nat) (t : Tok), k ≤ l.length → (scan p k l).2 = some t →
    ∃ i : Nat, t.a = ((p + i : Nat) : Int) ∧ i < l.length ∧ (l[i]? ≠ some 39 → ∀ m, ∃ t', (scan p k (l ++ 32 :: m)).2 = some t' ∧ t'.a = t.a)
  | [], p, k, t, hk, h => by
    have e : scan p k [] = ([], none) := by cases k <;> rfl
    rw [e] at h
    cases h
  | c :: r, p, k + 1, t, hk, h => by
    rw [scan_skip] at h
    obtain ⟨i, h1, h2, h3⟩ := scan_behind r (p + 1) k t (by simpa using hk) h
    refine ⟨i + 1, by rw [h1]; congr 1; omega, by simpa using h2, fun hi m => ?_⟩
    rw [List.cons_append, scan_skip]
    exact h3 (by simpa using hi) m
  | c :: r, p, 0, t, hk, h => by
    cases hb : spans cBlank c
    · by_cases hf : (first (c :: r)).2 = 0
      · rw [scan_wrong p c r hb hf] at h
        obtain rfl : (first (c :: r)).1.at p = t := by simpa using h
        refine ⟨0, rfl, by simp, fun hi m => ?_⟩
        have hc : c ≠ 39 := by simpa using hi
        have e := first_behind c r m (.inl hc)
        rw [List.cons_append] at e ⊢
        rw [scan_wrong p c (r ++ 32 :: m) hb (by rw [e]; exact hf), e]
        exact ⟨_, rfl, rfl⟩
      · rw [scan_tok p c r hb hf] at h
        simp only at h
        have hle := (first_le (c :: r)).1
        simp only [List.length_cons] at hle
        obtain ⟨i, h1, h2, h3⟩ := scan_behind r (p + 1) _ t (by omega) h
        refine ⟨i + 1, by rw [h1]; congr 1; omega, by simpa using h2, fun hi m => ?_⟩
        have e := first_behind c r m (.inr hf)
        rw [List.cons_append] at e ⊢
        rw [scan_tok p c (r ++ 32 :: m) hb (by rw [e]; exact hf), e]
        exact h3 (by simpa using hi) m
    · rw [scan_blank p c r hb] at h
      obtain ⟨i, h1, h2, h3⟩ := scan_behind r (p + 1) 0 t (by omega) h
      refine ⟨i + 1, by rw [h1]; congr 1; omega, by simpa using h2, fun hi m => ?_⟩
      rw [List.cons_append, scan_blank p c _ hb]
      exact h3 (by simpa using hi) m
/-- LexWrong's first answer -/
theorem wrong_behind (l m : List UInt8) (hl : l.length ≤ 400) (hm : m.length ≤ 100) (h : tokensE l ≠ 0) :
    tokensE l = 170 ∧ ∃ i : Nat, tokensP l = (i : Int) ∧ i < l.length ∧ (l[i]? ≠ some 39 → tokensE (l ++ 32 :: m) = 170 ∧ tokensP (l ++ 32 :: m) = (i : Int)) := by
  unfold tokensE tokensP at *
  rw [if_neg (by omega)] at h ⊢
  rw [if_neg (by omega)]
  rw [if_neg (by simp; omega), if_neg (by simp; omega)]
  cases he : (scan 0 0 l).2 with
  | none => rw [he] at h; exact absurd rfl h
  | some t =>
    obtain ⟨i, h1, h2, h3⟩ := scan_behind l 0 0 t (by omega) he
    rw [Nat.zero_add] at h1
    refine ⟨rfl, i, h1, h2, fun hi => ?_⟩
    obtain ⟨t', h4, h5⟩ := h3 hi m
    rw [h4]
    exact ⟨rfl, by rw [← h1, ← h5]⟩
/-- a token with its word in small letters -/
def Tok.low (t : Tok) : List UInt8 := if t.k = 1 then toLowerA t.w else t.w
theorem reads_low (t : Tok) (h : t.right = true) (h0 : 0 ≤ t.n) : Reads t.low t := by
  unfold Tok.low
  split
  · rename_i h1
    have hw : t.w = L t.s := by
      unfold Tok.w written
      rw [if_neg (by omega), if_neg (by omega)]
    rw [hw]
    unfold Tok.right at h
    rw [Bool.and_eq_true] at h
    exact reads_lower t h1 h.2
  · exact right_reads t h h0
end Go.Proofs.YtbenfgkomphlfaaDoor
