import Derived.Test.YtcahdillpdekmaaOctG
import Derived.Test.YtcahdillpdekmaaRep
namespace Go.Proofs.Ytcahdillpdekmaa
open Go.RowKit
set_option linter.unusedVariables false

/-! ## lists of asks -/
/-- a list of asks -/
abbrev AskSh : Sh := .slice (.pair (.int .i64) (.pair (.int .i64) .unit))

/-- v is a list of asks: the cells of the j-th are two ints -/
def Asks (w : World) (v : Value) (ab n : Nat) : Prop :=
  (v = .slice none 0 0 ∧ n = 0) ∨ ∃ off sp cap, v = .slice (some ⟨ab, off, sp⟩) n cap ∧ n ≤ cap ∧ cap ≤ maxLen ∧ (n = 0 ∨ sp = none) ∧
    ∀ j, j < n → ∃ K N : Int, w.cell? ⟨ab, off + j * 2, none⟩ = some (.int .i64 K) ∧ w.cell? ⟨ab, off + j * 2 + 1, none⟩ = some (.int .i64 N) ∧ -9223372036854775808 ≤ K ∧ K ≤ 9223372036854775807 ∧ -9223372036854775808 ≤ N ∧ N ≤ 9223372036854775807
theorem Asks.shape {w : World} {v : Value} {ab n : Nat} (h : Asks w v ab n) : ∃ a c, v = .slice a n c := by
  rcases h with ⟨rfl, rfl⟩ | ⟨off, sp, cap, rfl, _⟩
  · exact ⟨_, _, rfl⟩
  · exact ⟨_, _, rfl⟩
theorem Asks.ext {X : List Nat} {w w' : World} {v : Value} {ab n : Nat} (h : Asks w v ab n) (he : Ext X w w') (hx : ab ∉ X) : Asks w' v ab n := by
  rcases h with h | ⟨off, sp, cap, h1, h2, h3, h4, h5⟩
  · exact .inl h
  · refine .inr ⟨off, sp, cap, h1, h2, h3, h4, fun j hj => ?_⟩
    obtain ⟨K, N, a, b, r⟩ := h5 j hj
    exact ⟨K, N, he.read a hx, he.read b hx, r⟩
theorem Asks.at {w : World} {a : Option Addr} {n c ab : Nat} (h : Asks w (.slice a n c) ab n) (j : Nat) (hj : j < n) :
    ∃ off K N, a = some ⟨ab, off, none⟩ ∧ w.cell? ⟨ab, off + j * 2, none⟩ = some (.int .i64 K) ∧ w.cell? ⟨ab, off + j * 2 + 1, none⟩ = some (.int .i64 N) ∧ -9223372036854775808 ≤ K ∧ K ≤ 9223372036854775807 ∧ -9223372036854775808 ≤ N ∧ N ≤ 9223372036854775807 := by
  rcases h with ⟨_, rfl⟩ | ⟨off, sp, cap, hv, h2, h3, h4, h5⟩
  · omega
  · simp only [Value.slice.injEq] at hv
    obtain rfl : sp = none := by rcases h4 with h | h; omega; exact h
    obtain ⟨K, N, r⟩ := h5 j hj
    exact ⟨off, K, N, hv.1, r⟩
theorem read_asks {H : Type} {enc : TypeId × Value → H} {W : World} {v : Value} {d : DataW H} {p : List MemPlace} {base : Nat} (h : DataW.Trod enc Try.prog W 0 (fun _ => true) true 36 v d p) (k : Value.okWide Try.prog W .any base 36 v) :
    ∃ ab n, Asks W v ab n := by
  obtain ⟨a0, len0, cap0, rfl⟩ := WideShapes.okWide_slice Try.underlying36 k
  obtain ⟨l, hl⟩ := trod_rep (s := AskSh) 5 (by kernel_rfl) h
  have hl := rep_one hl rfl
  rcases hl with ⟨h1, _⟩ | ⟨ob, off, sp, cap, h1, h2, h3, h4, h5⟩
  · simp only [List.cons.injEq, Value.slice.injEq, and_true] at h1
    obtain ⟨rfl, rfl, rfl⟩ := h1
    exact ⟨0, 0, .inl ⟨rfl, rfl⟩⟩
  · simp only [List.cons.injEq, Value.slice.injEq, and_true] at h1
    obtain ⟨rfl, rfl, rfl⟩ := h1
    refine ⟨ob, _, .inr ⟨off, sp, cap0, rfl, h2, h3, ?_, fun j hj => ?_⟩⟩
    · rcases h4 with h4 | ⟨h4, _⟩
      · refine .inl ?_
        have : (Sh.pair (.int .i64) (.pair (.int .i64) .unit)).size = 2 := rfl
        rw [this] at h4; omega
      · exact .inr h4
    · obtain ⟨cs', a1, a2, a3⟩ := h5 j _ (List.getElem?_eq_getElem hj)
      obtain ⟨c1, c2, rfl, ⟨rfl, b1⟩, c3, c4, rfl, ⟨rfl, b2⟩, rfl⟩ := a3
      have e0 := a2 0 _ rfl
      have e1 := a2 1 _ rfl
      have b1 := bounds_i64 b1
      have b2 := bounds_i64 b2
      have s2 : (Sh.pair (.int .i64) (.pair (.int .i64) .unit)).size = 2 := rfl
      rw [s2] at e0 e1
      refine ⟨_, _, ?_, ?_, b1.1, b1.2, b2.1, b2.2⟩
      · rw [← e0]; congr 2
      · rw [← e1]; congr 2
end Go.Proofs.Ytcahdillpdekmaa
