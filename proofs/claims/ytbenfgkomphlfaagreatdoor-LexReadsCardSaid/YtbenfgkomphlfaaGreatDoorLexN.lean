/-
  More mathematics of tokens: of what a text is told, in turn.
-/
import Derived.Test.YtbenfgkomphlfaaGreatDoorLexM
namespace Go.Proofs.YtbenfgkomphlfaaGreatDoor
open Go.Lib
set_option linter.unusedVariables false

/-- what is told of a text, in turn: the tokens, and at last what is wrong -/
def es (p : List Tok × Option Tok) : List (Tok × Bool) := p.1.map (fun t => (t, true)) ++ p.2.toList.map (fun t => (t, false))
theorem scan_skip (p k : Nat) (c : UInt8) (r : List UInt8) : scan p (k + 1) (c :: r) = scan (p + 1) k r := rfl
theorem scan_blank (p : Nat) (c : UInt8) (r : List UInt8) (h : spans cBlank c = true) : scan p 0 (c :: r) = scan (p + 1) 0 r := by rw [scan.eq_def]; simp [h]
theorem scan_wrong (p : Nat) (c : UInt8) (r : List UInt8) (h : spans cBlank c = false) (h2 : (first (c :: r)).2 = 0) : scan p 0 (c :: r) = ([], some ((first (c :: r)).1.at p)) := by rw [scan.eq_def]; simp [h, h2]
theorem scan_tok (p : Nat) (c : UInt8) (r : List UInt8) (h : spans cBlank c = false) (h2 : (first (c :: r)).2 ≠ 0) :
    scan p 0 (c :: r) = ((first (c :: r)).1.at p :: (scan (p + 1) ((first (c :: r)).2 - 1) r).1, (scan (p + 1) ((first (c :: r)).2 - 1) r).2) := by rw [scan.eq_def]; simp [h, h2]
theorem es_cons (t : Tok) (l : List Tok) (o : Option Tok) : es (t :: l, o) = (t, true) :: es (l, o) := rfl
theorem es_length : ∀ (r : List UInt8) (p k : Nat), (es (scan p k r)).length ≤ r.length
  | [], p, k => by simp [scan, es]
  | c :: r, p, k + 1 => by rw [scan_skip]; have := es_length r (p + 1) k; simp; omega
  | c :: r, p, 0 => by
    cases hb : spans cBlank c
    · by_cases h2 : (first (c :: r)).2 = 0
      · rw [scan_wrong _ _ _ hb h2]; simp [es]
      · rw [scan_tok _ _ _ hb h2, es_cons]
        have := es_length r (p + 1) ((first (c :: r)).2 - 1)
        simp; omega
    · rw [scan_blank _ _ _ hb]; have := es_length r (p + 1) 0; simp; omega

/-! ## tokens are of ASCII -/
def asc (x : UInt8) : Bool := decide (x.toNat < 128)
theorem qscan_bytes : ∀ (r acc : List UInt8) (k : Nat) (t : List UInt8) (m : Nat), qscan r acc k = some (t, m) → k ≤ m ∧ acc <+: t ∧ ∀ x ∈ r.take (m - k), x = 39 ∨ x ∈ t
  | [], acc, k, t, m, h => by rw [qscan_nil] at h; cases h
  | [c], acc, k, t, m, h => by
    by_cases hc : c = 39
    · subst hc
      rw [qscan_end] at h
      obtain ⟨rfl, rfl⟩ : acc = t ∧ k + 1 = m := by simpa using h
      refine ⟨by omega, List.prefix_rfl, fun x hx => ?_⟩
      simp at hx
      exact .inl hx
    · rw [qscan_plain _ _ _ hc, qscan_nil] at h; cases h
  | c :: d :: r, acc, k, t, m, h => by
    by_cases hc : c = 39
    · subst hc
      by_cases hd : d = 39
      · subst hd
        rw [qscan_two] at h
        obtain ⟨h1, h2, h3⟩ := qscan_bytes r _ _ _ _ h
        refine ⟨by omega, (List.prefix_append _ _).trans h2, fun x hx => ?_⟩
        obtain ⟨j, hj⟩ : ∃ j, m - k = j + 2 := ⟨m - k - 2, by omega⟩
        rw [hj] at hx
        simp only [List.take_succ_cons, List.mem_cons] at hx
        rcases hx with rfl | rfl | hx
        · exact .inl rfl
        · exact .inl rfl
        · exact h3 x (by rwa [show m - (k + 2) = j by omega])
      · rw [qscan_stop _ _ _ hd] at h
        obtain ⟨rfl, rfl⟩ : acc = t ∧ k + 1 = m := by simpa using h
        refine ⟨by omega, List.prefix_rfl, fun x hx => ?_⟩
        simp at hx
        exact .inl hx
    · rw [qscan_plain _ _ _ hc] at h
      obtain ⟨h1, h2, h3⟩ := qscan_bytes (d :: r) _ _ _ _ h
      refine ⟨by omega, (List.prefix_append _ _).trans h2, fun x hx => ?_⟩
      obtain ⟨j, hj⟩ : ∃ j, m - k = j + 1 := ⟨m - k - 1, by omega⟩
      rw [hj] at hx
      simp only [List.take_succ_cons, List.mem_cons] at hx
      rcases hx with rfl | hx
      · exact .inr (h2.subset (by simp))
      · exact h3 x (by rw [show m - (k + 1) = j by omega]; exact hx)

theorem qscan_len : ∀ {r acc : List UInt8} {k : Nat} {t : List UInt8} {m : Nat}, qscan r acc k = some (t, m) → m ≤ k + r.length
  | [], acc, k, t, m, h => by rw [qscan_nil] at h; cases h
  | [c], acc, k, t, m, h => by
    by_cases hc : c = 39
    · subst hc
      rw [qscan_end] at h
      obtain ⟨rfl, rfl⟩ : acc = t ∧ k + 1 = m := by simpa using h
      simp
    · rw [qscan_plain _ _ _ hc, qscan_nil] at h; cases h
  | c :: d :: r, acc, k, t, m, h => by
    by_cases hc : c = 39
    · subst hc
      by_cases hd : d = 39
      · subst hd
        rw [qscan_two] at h
        have := qscan_len h
        simp
        omega
      · rw [qscan_stop _ _ _ hd] at h
        obtain ⟨rfl, rfl⟩ : acc = t ∧ k + 1 = m := by simpa using h
        simp
    · rw [qscan_plain _ _ _ hc] at h
      have := qscan_len h
      simp at this ⊢; omega
theorem asc_of (cs : List UInt8) (hcs : ∀ x : UInt8, spans cs x = true → x.toNat < 128) (l : List UInt8) (h : l.all (spans cs) = true) : l.all asc = true := by
  rw [List.all_eq_true] at *
  intro x hx
  simpa [asc] using hcs x (h x hx)
theorem alnum_low (x : UInt8) (h : spans cAlnum x = true) : x.toNat < 128 := by simp [spans] at h; omega
theorem plain_low (x : UInt8) (h : spans cPlain x = true) : x.toNat < 128 := by simp [spans] at h; omega
theorem together_len (l : List UInt8) : (together l).2 = 0 ∨ (together l).2 = l.length := by
  unfold together
  split
  · exact .inr rfl
  · split
    · exact .inr rfl
    · split
      · exact .inr rfl
      · exact .inl rfl
theorem signOf_prefix (l : List UInt8) : signOf l <+: l ∧ (signOf l = [] ∨ signOf l ∈ signsL) := by
  unfold signOf
  cases h : signsL.find? (fun g => hasPrefix l g) with
  | none => exact ⟨List.nil_prefix, .inl rfl⟩
  | some g =>
    have h1 := List.find?_some h
    have h2 := List.mem_of_find?_eq_some h
    exact ⟨List.isPrefixOf_iff_prefix.1 h1, .inr h2⟩
theorem signs_low : ∀ g ∈ signsL, g.all asc = true := by decide
theorem first_le (l : List UInt8) : (first l).2 ≤ l.length ∧ ((l.take (first l).2).all asc = true) := by
  unfold first
  split
  · have hle := ahead_le cAlnum l
    rcases together_len (l.take (ahead cAlnum l)) with h | h
    · rw [h]; simp
    · rw [h, List.length_take]
      refine ⟨by omega, ?_⟩
      rw [Nat.min_eq_left hle, ahead_take]
      exact asc_of _ alnum_low _ List.all_takeWhile
  · split
    · rename_i hp
      obtain ⟨r, rfl⟩ : ∃ r, l = 39 :: r := by
        obtain ⟨r, hr⟩ := List.isPrefixOf_iff_prefix.1 hp
        exact ⟨r, by simpa using hr.symm⟩
      unfold quoted
      rw [List.drop_succ_cons, List.drop_zero]
      cases hq : qscan r [] 1 with
      | none => simp
      | some p =>
        obtain ⟨t, m⟩ := p
        simp only [ended]
        split
        · rename_i ht
          obtain ⟨h1, -, h3⟩ := qscan_bytes _ _ _ _ _ hq
          have hlow : ∀ x ∈ t, asc x = true := by
            unfold isText at ht
            rw [Bool.and_eq_true] at ht
            exact fun x hx => List.all_eq_true.1 (asc_of _ plain_low _ ht.2) x hx
          refine ⟨by have := qscan_len hq; simp; omega, ?_⟩
          obtain ⟨j, rfl⟩ : ∃ j, m = j + 1 := ⟨m - 1, by omega⟩
          simp only [List.take_succ_cons, List.all_cons]
          rw [show asc 39 = true from rfl, Bool.true_and, List.all_eq_true]
          intro x hx
          rcases h3 x (by simpa using hx) with rfl | h
          · rfl
          · exact hlow x h
        · simp
    · obtain ⟨⟨r, hr⟩, h2⟩ := signOf_prefix l
      generalize signOf l = g at *
      subst hr
      refine ⟨by simp, ?_⟩
      rw [show ((⟨5, 0, B g, 0⟩ : Tok), g.length).2 = g.length from rfl, List.take_left]
      rcases h2 with h | h
      · rw [h]; rfl
      · exact signs_low _ h
end Go.Proofs.YtbenfgkomphlfaaGreatDoor
