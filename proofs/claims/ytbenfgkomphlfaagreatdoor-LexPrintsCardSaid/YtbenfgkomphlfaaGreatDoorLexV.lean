/-
  Tokens as an argument of a law.
-/
import Derived.Test.YtbenfgkomphlfaaGreatDoorLexA
import Derived.Test.YtbenfgkomphlfaaGreatDoorRep
namespace Go.Proofs.YtbenfgkomphlfaaGreatDoor
open Go.RowKit
open Go.Lib
set_option linter.unusedVariables false

abbrev TokSh : Sh := .slice (.pair (.int .i64) (.pair (.int .i64) (.pair .str (.pair (.int .u64) .unit))))
def tokOf (x : Int × Int × ByteArray × Int × Unit) : Tok := ⟨x.1, x.2.1, x.2.2.1, x.2.2.2.1⟩
set_option maxRecDepth 100000 in
theorem read_toks {H : Type} {enc : TypeId × Value → H} {W : World} {v : Value} {d : DataW H} {p : List MemPlace} {base : Nat} (h : DataW.Trod enc Tryz.prog W 0 (fun _ => true) true 23 v d p) (k : Value.okWide Tryz.prog W .any base 23 v) :
    ∃ ob l, Ts W v ob l ∧ ∀ t ∈ l, 0 ≤ t.n ∧ t.s.size ≤ maxLen := by
  obtain ⟨a0, len0, cap0, rfl⟩ := WideShapes.okWide_slice Tryz.underlying23 k
  obtain ⟨l, hl⟩ : ∃ l : List (Int × Int × ByteArray × Int × Unit), Rep W W.heap.size TokSh [.slice a0 len0 cap0] l := by
    obtain ⟨l, hl⟩ := trod_rep (s := TokSh) 12 (by kernel_rfl) h
    exact ⟨l, rep_one hl rfl⟩
  rcases hl with ⟨h1, _⟩ | ⟨ob, off, sp, cap, h1, h2, h3, h4, h5⟩
  · simp only [List.cons.injEq, Value.slice.injEq, and_true] at h1
    obtain ⟨rfl, rfl, rfl⟩ := h1
    exact ⟨0, [], Ts.nil _ _, by simp⟩
  · simp only [List.cons.injEq, Value.slice.injEq, and_true] at h1
    obtain ⟨rfl, rfl, rfl⟩ := h1
    have s4 : (Sh.pair (.int .i64) (.pair (.int .i64) (.pair .str (.pair (.int .u64) .unit)))).size = 4 := rfl
    have hc : ∀ (i : Nat) (x : Int × Int × ByteArray × Int × Unit), l[i]? = some x → (0 ≤ (tokOf x).n ∧ (tokOf x).s.size ≤ maxLen) ∧ ∀ r u, (tokOf x).row[r]? = some u → W.cell? ⟨ob, off + (i * 4 + r), none⟩ = some u := by
      intro i x hx
      obtain ⟨cs', a1, a2, a3⟩ := h5 i x hx
      obtain ⟨c1, c2, rfl, ⟨rfl, b1⟩, c3, c4, rfl, ⟨rfl, b2⟩, c5, c6, rfl, ⟨rfl, b3⟩, c7, c8, rfl, ⟨rfl, b4⟩, rfl⟩ := a3
      rw [s4] at a2
      refine ⟨⟨?_, b3⟩, fun r u hu => a2 r u hu⟩
      have := bounds_u64 b4
      exact this.1
    refine ⟨ob, l.map tokOf, ⟨by rw [trows_length, List.length_map], .inr ⟨off, sp, cap0, by rw [List.length_map]; rfl, by rw [List.length_map]; exact h2, h3, ?_, ?_⟩⟩, ?_⟩
    · rw [List.length_map]
      rcases h4 with h4 | ⟨h4, _⟩
      · refine .inl ?_
        rw [s4] at h4
        have h4 : l.length * 4 = 0 := h4
        omega
      · exact .inr h4
    · intro j u hu
      have hj : j < (trows (l.map tokOf)).length := (List.getElem?_eq_some_iff.1 hu).1
      rw [trows_length, List.length_map] at hj
      have hx : l[j / 4]? = some (l[j / 4]'(by omega)) := List.getElem?_eq_getElem (by omega)
      have ht := trows_at (l.map tokOf) (j / 4) (tokOf (l[j / 4]'(by omega))) (by rw [List.getElem?_map, hx]; rfl) (j % 4) (by omega)
      rw [show j / 4 * 4 + j % 4 = j by omega, hu] at ht
      have := (hc _ _ hx).2 (j % 4) u ht.symm
      rwa [show j / 4 * 4 + j % 4 = j by omega] at this
    · intro t ht
      obtain ⟨x, hx, rfl⟩ := List.mem_map.1 ht
      obtain ⟨i, hi⟩ := List.getElem?_of_mem hx
      exact (hc i x hi).1
end Go.Proofs.YtbenfgkomphlfaaGreatDoor
