/-
  wakes.
-/
import Derived.Test.YtbenfgkomphlfaaGreatDoorLexK
import Derived.Test.YtbenfgkomphlfaaGreatDoorLexQ
namespace Go.Proofs.YtbenfgkomphlfaaGreatDoor
open Go.RowKit
open Go.Lib hiding intOf
set_option linter.unusedVariables false

def src0 : List UInt8 := [115, 101, 108, 101, 99, 116, 32, 97, 46, 98, 60, 61, 49, 48]
def toks0 : List Tok := [⟨1, 0, B [83, 69, 76, 69, 67, 84], 0⟩, ⟨2, 7, B [97], 0⟩, ⟨5, 8, B [46], 0⟩, ⟨2, 9, B [98], 0⟩, ⟨5, 10, B [60, 61], 0⟩, ⟨3, 12, B [], 10⟩]
theorem scan0 : scan 0 0 src0 = (toks0, none) := by kernel_rfl
theorem toks0L : tokensL src0 = toks0 := by unfold tokensL; rw [if_neg (by decide), scan0]
theorem toks0P : tokensP src0 = 0 := by unfold tokensP; rw [if_neg (by decide), scan0]
theorem toks0E : tokensE src0 = 0 := by unfold tokensE; rw [if_neg (by decide), scan0]
def its : List Tok := [⟨4, 0, ⟨#[105, 116, 39, 115]⟩, 0⟩]
theorem its_right : its.all Tok.right = true := by kernel_rfl
theorem its_print : printL its = [39, 105, 116, 39, 39, 115, 39] := by kernel_rfl
set_option maxRecDepth 100000 in
theorem wakes_any (w : World) (hG : Glob w) : Calls Tryz.prog 5 #[] w fun e w' => e = .returned (.bool true) ∧ Ext [] w w' := by
  have tk := Tokens_any w ⟨#[115, 101, 108, 101, 99, 116, 32, 97, 46, 98, 60, 61, 49, 48]⟩ hG
  unfold TokEnd at tk
  rw [show L ⟨#[115, 101, 108, 101, 99, 116, 32, 97, 46, 98, 60, 61, 49, 48]⟩ = src0 from rfl, toks0L, toks0P, toks0E] at tk
  have pr : ∀ W, Glob W → Calls Tryz.prog 9 #[.slice (some ⟨W.heap.size, 0, none⟩) 1 1] (W.alloc (.cells #[.int .i64 4, .int .i64 0, .string ⟨#[105, 116, 39, 115]⟩, .int .u64 0] 29))
      fun e w' => e = .returned (.tuple #[.string ⟨#[39, 105, 116, 39, 39, 115, 39]⟩, .int .i64 0]) ∧ Ext [] (W.alloc (.cells #[.int .i64 4, .int .i64 0, .string ⟨#[105, 116, 39, 115]⟩, .int .u64 0] 29)) w' := by
    intro W g
    have := Print_any (W.alloc (.cells (trows its).toArray 29)) _ _ its (Ts.lit W its 29 (by decide)) (g.ext ((Ext.refl [] W).alloc _)) (by decide) (by intro t ht; simp [its] at ht; subst ht; exact ⟨by decide, by decide⟩)
    rw [its_right, if_pos rfl, if_pos rfl, its_print] at this
    exact this
  go_enter Tryz.func5, Tryz.ntmps5
  go_wp2_with (first
    | (go_at_call 6; refine tk.mono ?_; rintro e w1 ⟨v, ob, rfl, hT, hob, h1⟩; obtain ⟨a, cap, hv⟩ := hT.shape; rw [show toks0.length = 6 from rfl] at hv; subst hv)
    | (go_at_call 9; refine (pr _ (hG.ext h1)).mono ?_; rintro e w2 ⟨rfl, h2⟩
       have hE := (Ext.refl [] w1).alloc (.cells #[.int .i64 4, .int .i64 0, .string ⟨#[105, 116, 39, 115]⟩, .int .u64 0] 29)
       have hX := (h1.trans hE).trans h2
       obtain ⟨o, K, P, S, U, rfl, hx, c0, c1, c2, c3⟩ := Ts.at (l := toks0) ((hT.ext hE (by simp)).ext h2 (by simp)) 4 (by decide)
       obtain ⟨rfl, rfl, rfl, rfl⟩ : 5 = K ∧ 10 = P ∧ ⟨#[60, 61]⟩ = S ∧ 0 = U := by
         have e : toks0[4]? = some ⟨5, 10, ⟨#[60, 61]⟩, 0⟩ := rfl
         rw [e] at hx
         simpa using hx
       simp only [Nat.reduceMul, Nat.add_assoc, Nat.reduceAdd] at c0 c1 c2 c3))
  go_ret
  exact ⟨rfl, hX⟩
end Go.Proofs.YtbenfgkomphlfaaGreatDoor
