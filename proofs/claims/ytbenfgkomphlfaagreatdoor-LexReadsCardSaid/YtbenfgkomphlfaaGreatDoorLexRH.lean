/-
  The reference: which sign stands ahead.
-/
import Derived.Test.YtbenfgkomphlfaaGreatDoorLexRA
namespace Go.Proofs.YtbenfgkomphlfaaGreatDoor
open Go.Lib hiding intOf
set_option linter.unusedVariables false
set_option linter.unusedSimpArgs false

theorem find_cons_eq (p : List UInt8 → Bool) (g : List UInt8) (l : List (List UInt8)) : (g :: l).find? p = if p g = true then some g else l.find? p := by
  rw [List.find?_cons]
  cases p g <;> rfl
def oneSigns : List UInt8 := [61, 40, 41, 44, 46, 42, 43, 45, 47]
set_option maxHeartbeats 1000000 in
theorem signOf_two (c d : UInt8) (r : List UInt8) : signOf (c :: d :: r) = if refSigns.contains [c, d] then [c, d] else if refSigns.contains [c] then [c] else [] := by
  by_cases h1 : c = 60
  · subst h1
    by_cases h2 : d = 62
    · subst h2; rfl
    by_cases h3 : d = 61
    · subst h3; rfl
    simp [signOf, signsL, refSigns, hasPrefix, List.isPrefixOf, find_cons_eq, h2, h3, Ne.symm h2, Ne.symm h3, beq_eq_false_iff_ne]
  by_cases h1' : c = 62
  · subst h1'
    by_cases h3 : d = 61
    · subst h3; rfl
    simp [signOf, signsL, refSigns, hasPrefix, List.isPrefixOf, find_cons_eq, h3, Ne.symm h3]
  by_cases h4 : c ∈ oneSigns
  · simp only [oneSigns, List.mem_cons, List.mem_nil_iff, or_false] at h4
    rcases h4 with rfl | rfl | rfl | rfl | rfl | rfl | rfl | rfl | rfl <;> simp [signOf, signsL, refSigns, hasPrefix, List.isPrefixOf, find_cons_eq]
  · simp only [oneSigns, List.mem_cons, List.mem_nil_iff, or_false, not_or] at h4
    obtain ⟨a1, a2, a3, a4, a5, a6, a7, a8, a9⟩ := h4
    simp [signOf, signsL, refSigns, hasPrefix, List.isPrefixOf, find_cons_eq, h1, h1', a1, a2, a3, a4, a5, a6, a7, a8, a9, Ne.symm h1, Ne.symm h1', Ne.symm a1, Ne.symm a2, Ne.symm a3, Ne.symm a4, Ne.symm a5, Ne.symm a6, Ne.symm a7, Ne.symm a8, Ne.symm a9]
theorem signOf_one (c : UInt8) : signOf [c] = if refSigns.contains [c] then [c] else [] := by
  have h : ∀ n : Fin 256, signOf [UInt8.ofNat n.val] = if refSigns.contains [UInt8.ofNat n.val] then [UInt8.ofNat n.val] else [] := by decide +kernel
  have := h ⟨c.toNat, c.toNat_lt⟩
  simpa using this
end Go.Proofs.YtbenfgkomphlfaaGreatDoor
