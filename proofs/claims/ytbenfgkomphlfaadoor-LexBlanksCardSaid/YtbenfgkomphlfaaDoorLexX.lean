/-
  One token laid.
-/
import Derived.Test.YtbenfgkomphlfaaDoorLexQ
import Derived.Test.YtbenfgkomphlfaaDoorLexU
namespace Go.Proofs.YtbenfgkomphlfaaDoor
open Go.RowKit
open Go.Lib hiding intOf
set_option linter.unusedVariables false

theorem print_one (W : World) (K P U : Int) (S : ByteArray) (g : Glob W) (hs : S.size ≤ 100000) (h0 : 0 ≤ U) :
    Calls Tryd.prog 7 #[.slice (some ⟨W.heap.size, 0, none⟩) 1 1] (W.alloc (.cells #[.int .i64 K, .int .i64 P, .string S, .int .u64 U] 26))
      fun e w' => e = .returned (.tuple #[.string (B (if (Tok.mk K P S U).right then (Tok.mk K P S U).w else [])), .int .i64 (if (Tok.mk K P S U).right then 0 else 171)]) ∧ Ext [] (W.alloc (.cells #[.int .i64 K, .int .i64 P, .string S, .int .u64 U] 26)) w' := by
  have h := Print_any (W.alloc (.cells (trows [⟨K, P, S, U⟩]).toArray 26)) _ _ [⟨K, P, S, U⟩] (Ts.lit W _ 26 (by simp)) (g.ext ((Ext.refl [] W).alloc _)) (by simp) (by intro t ht; simp at ht; subst ht; exact ⟨hs, h0⟩)
  have e : printL [⟨K, P, S, U⟩] = (Tok.mk K P S U).w := by simp [printL, join_one]
  have e2 : [Tok.mk K P S U].all Tok.right = (Tok.mk K P S U).right := by simp
  rw [e, e2] at h
  exact h
theorem strewn_succ (u : Tok → List UInt8) (b : List UInt8) (l : List Tok) (k : Nat) (t : Tok) (h : l[k]? = some t) : strewn u b (l.take (k + 1)) = strewn u b (l.take k) ++ (u t ++ 32 :: b) := by
  unfold strewn
  rw [List.take_add_one, h, List.flatMap_append]
  simp
end Go.Proofs.YtbenfgkomphlfaaDoor
