
/-
  The same: slices.Equal, sameTable, Same.
-/
import Derived.Test.YtjmfcjidhmaibaaGreatDoorCatL
namespace Go.Proofs.YtjmfcjidhmaibaaGreatDoor
open Go.RowKit
open Go.Lib hiding intOf
set_option linter.unusedVariables false

theorem run_neC (w : World) (n n' : ByteArray) (k k' : Int) : (binOp .neq 67 (CV n k) (CV n' k')).run Tryz.prog w = .ok (.bool (!decide (n = n' ∧ k = k'))) w := by
  have hs := toList_eq n n'
  by_cases e1 : n = n'
  · by_cases e2 : k = k'
    · simp [go_sem, e1, e2]
    · simp [go_sem, e1, e2]
  · rw [decide_eq_false e1] at hs
    by_cases e2 : k = k'
    · simp [go_sem, e1, e2, hs]
    · simp [go_sem, e1, e2, hs]
theorem dropEq {α : Type} [DecidableEq α] {l m : List α} {k : Nat} {x y : α} (hx : l[k]? = some x) (hy : m[k]? = some y) : decide (l.drop k = m.drop k) = (decide (x = y) && decide (l.drop (k + 1) = m.drop (k + 1))) := by
  obtain ⟨h1, rfl⟩ := List.getElem?_eq_some_iff.1 hx
  obtain ⟨h2, rfl⟩ := List.getElem?_eq_some_iff.1 hy
  rw [List.drop_eq_getElem_cons h1, List.drop_eq_getElem_cons h2]
  simp only [List.cons.injEq]
  by_cases h : l[k] = m[k] <;> simp [h]
theorem tab_eq (t u : Tab) : decide (t = u) = (decide (t.n = u.n) && decide (t.cols = u.cols) && decide (t.keys = u.keys)) := by
  cases t; cases u
  rw [Bool.eq_iff_iff]
  simp [and_assoc]
end Go.Proofs.YtjmfcjidhmaibaaGreatDoor
