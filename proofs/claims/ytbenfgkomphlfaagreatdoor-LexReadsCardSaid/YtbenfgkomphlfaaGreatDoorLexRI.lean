/-
  Plain mathematics: what a text begins with, as the reference asks it.
-/
import Derived.Test.YtbenfgkomphlfaaGreatDoorLexRG
import Derived.Test.YtbenfgkomphlfaaGreatDoorLexRH
namespace Go.Proofs.YtbenfgkomphlfaaGreatDoor
open Go.Lib hiding intOf
set_option linter.unusedVariables false

theorem ahead_at (l : List UInt8) (n : Nat) (hn : n ≤ l.length) (h1 : (l.take n).all (spans cAlnum) = true) (h2 : ∀ c, l[n]? = some c → spans cAlnum c = false) : ahead cAlnum l = n := by
  have hu : ahead cAlnum (l.take n) = n := by
    have := ahead_all cAlnum (l.take n)
    rw [h1] at this
    have e : ahead cAlnum (l.take n) = (l.take n).length := by simpa using this
    rw [e, List.length_take]
    omega
  rcases Nat.lt_or_ge n l.length with h | h
  · have hc := h2 _ (List.getElem?_eq_getElem h)
    have hd : l = l.take n ++ l[n] :: l.drop (n + 1) := by
      rw [← List.drop_eq_getElem_cons h, List.take_append_drop]
    rw [hd, ahead_append _ _ _ _ hc]
    have : (l.take n ++ l[n] :: l.drop (n + 1)).take n = l.take n := by rw [← hd]
    exact hu
  · have e : l.take n = l := List.take_of_length_le h
    rw [e] at hu
    exact hu
theorem first_quoted (r : List UInt8) : first (39 :: r) = match qscan r [] 1 with
    | none => (Tok.zero, 0)
    | some (t, k) => ended t k := by
  unfold first
  rw [if_neg (by unfold ahead; simp [spans]), if_pos (by simp [hasPrefix, List.isPrefixOf])]
  rfl
theorem first_row (l : List UInt8) (n : Nat) (h0 : 0 < n) (h : ahead cAlnum l = n) : first l = together (l.take n) := by
  unfold first
  rw [h, if_pos h0]
theorem first_sign (c : UInt8) (r : List UInt8) (hc : c ≠ 39) (h : ahead cAlnum (c :: r) = 0) : first (c :: r) = (⟨5, 0, B (signOf (c :: r)), 0⟩, (signOf (c :: r)).length) := by
  unfold first
  rw [h, if_neg (by omega), if_neg (by simp [hasPrefix, List.isPrefixOf]; exact fun e => hc e.symm)]
/-- a row of letters, digits and _, in the order in which the reference asks -/
theorem together_num {u : List UInt8} {n : Nat} (hu : u.all (spans cAlnum) = true) (h : numR u = some n) : together u = (⟨3, 0, B [], n⟩, u.length) := by
  have e := num_eq u hu
  rw [h] at e
  obtain ⟨m, hm, _, hd⟩ := numOf_digits e hu
  obtain ⟨f1, f2, _, _⟩ := dec_facts m
  rw [← hd] at f1 f2
  unfold together
  rw [f1, f2, e]
  rfl
theorem together_word {u : List UInt8} (h : isWord (toUpperA u) = true) : together u = (⟨1, 0, B (toUpperA u), 0⟩, u.length) := by
  unfold together
  rw [isName_word h, h]
  rfl
theorem together_name {u : List UInt8} (h : isName u = true) : together u = (⟨2, 0, B u, 0⟩, u.length) := by
  unfold together
  rw [h]
  rfl
theorem together_none {u : List UInt8} (hu : u.all (spans cAlnum) = true) (h1 : numR u = none) (h2 : isWord (toUpperA u) = false) (h3 : isName u = false) : together u = (Tok.zero, 0) := by
  have e := num_eq u hu
  rw [h1] at e
  unfold together
  rw [h3, h2, e]
  rfl
end Go.Proofs.YtbenfgkomphlfaaGreatDoor
