
/-
  A catalog as an argument of a law; when it is small enough; a text parsed, in cases.
-/
import Derived.Test.YtjmfcjidhmaibaaGreatDoorCatV
import Derived.Test.YtjmfcjidhmaibaaGreatDoorCatX
import Derived.Test.YtjmfcjidhmaibaaGreatDoorCatZ
namespace Go.Proofs.YtjmfcjidhmaibaaGreatDoor
open Go.RowKit
open Go.Lib
set_option linter.unusedVariables false

set_option maxRecDepth 100000 in
theorem read_cat {H : Type} {enc : TypeId × Value → H} {W : World} {v : Value} {d : DataW H} {p : List MemPlace} {base : Nat} (h : DataW.Trod enc Tryz.prog W 0 (fun _ => true) true 24 v d p) (k : Value.okWide Tryz.prog W .any base 24 v) :
    ∃ u l, v = KV u ∧ Ts W u l ∧ l.length ≤ maxLen ∧ ∀ t ∈ l, Fit t := by
  obtain ⟨cs, rfl, hcs⟩ := WideShapes.okWide_struct Tryz.underlying24 k
  obtain ⟨l, hl⟩ := trod_rep (s := .pair TabsSh .unit) 12 (by kernel_rfl) h
  have hl' : Rep W W.heap.size (.pair TabsSh .unit) cs.toList l := hl
  obtain ⟨c1, c2, hc, h1, h2⟩ := hl'
  obtain ⟨u, rfl⟩ : ∃ u, c1 = [u] := by
    have := h1.length
    match c1, this with
    | [u], _ => exact ⟨u, rfl⟩
  have h2 : c2 = [] := h2
  subst h2
  have hcs' : cs = #[u] := by
    apply Array.toList_inj.1
    rw [hc]; rfl
  subst hcs'
  have := rep_tabs h1
  exact ⟨u, _, rfl, this.1, Nat.le_trans (Nat.le_of_eq (List.length_map ..)) this.2.1, this.2.2⟩
theorem fit_ok {l : List Tab} (h : ∀ t ∈ l, Fit t) : TabsOK l := fun t ht => ⟨(h t ht).2.1, (h t ht).2.2.1⟩
theorem over_small {l : List Tab} (h : overB l = false) : l.length ≤ 20 ∧ ∀ t ∈ l, t.cols.length ≤ 20 ∧ t.keys.length ≤ 20 := by
  unfold overB at h
  rw [Bool.or_eq_false_iff] at h
  obtain ⟨h1, h2⟩ := h
  refine ⟨by simpa using h1, fun t ht => ?_⟩
  have := List.any_eq_false.1 h2 t ht
  unfold largeB at this
  simp only [Bool.or_eq_true, decide_eq_true_eq, not_or] at this
  omega
/-- a text parsed: read whole, or refused -/
theorem parseL_cases (l : List UInt8) : (∃ D, parseL l = (D, 0, 0) ∧ isCat D = true ∧ printC D = l) ∨ (∃ q e, parseL l = ([], q, e) ∧ e ≠ 0) := by
  unfold parseL
  split
  · exact .inr ⟨0, 3, rfl, by decide⟩
  · obtain ⟨⟨D, q, e⟩, h⟩ : ∃ r, parseM [] (lns 0 [] l) = r := ⟨_, rfl⟩
    rw [h]
    by_cases he : e = 0
    · subst he
      obtain ⟨h1, h2, h3⟩ := print_parse l.length l [] D 0 q (Nat.le_refl _) (by decide +kernel) h
      subst h3
      exact .inl ⟨D, rfl, h1, by rw [h2]; rfl⟩
    · obtain ⟨h1, h2, _⟩ := parse_wrong l.length l [] D 0 q e (Nat.le_refl _) h he
      subst h2
      exact .inr ⟨q, e, rfl, he⟩
theorem parseL_print {l : List Tab} (h : isCat l = true) (hl : (printC l).length ≤ 1000) : parseL (printC l) = (l, 0, 0) := by
  unfold parseL
  rw [if_neg (by omega)]
  have := parse_print l [] 0 (by simpa using h)
  simpa using this
end Go.Proofs.YtjmfcjidhmaibaaGreatDoor
