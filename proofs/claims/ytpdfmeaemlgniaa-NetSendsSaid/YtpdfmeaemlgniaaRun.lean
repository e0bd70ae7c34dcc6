
/-
  A small evaluator over the model's code, for calls that the kernel can reckon whole (numbers alone), and its soundness.
-/
import Derived.Test.YtpdfmeaemlgniaaLib
import Derived.LoopN
namespace Go.Proofs.Ytpdfmeaemlgniaa
open Go.RowKit
set_option linter.unusedVariables false

/-- operations in turn; 'call' says what a callee comes to -/
def runO (P : Program) (call : FuncId → Array Value → World → Option (Value × World)) (ops : Array Oper) : List Oper → Act → World → Option (Act × World)
  | [], a, w => some (a, w)
  | o :: rest, a, w =>
    if Region.wanted o (yielded ops a.tmps) then
      match (execOp a.eval o).run P w with
      | .ok (.value v) w' => runO P call ops rest (a.put o.dst v) w'
      | .ok .skip w' => runO P call ops rest (a.put o.dst undef) w'
      | .ok (.enter f args) w' =>
        match call f args w' with
        | some (v, w'') => runO P call ops rest (a.put o.dst v) w''
        | none => none
      | _ => none
    else runO P call ops rest (a.put o.dst undef) w

/-- the rounds of a loop -/
def runL (f : Act → World → Option (Exit × Act × World)) : Nat → Act → World → Option (Exit × Act × World)
  | 0, _, _ => none
  | m + 1, a, w =>
    match f a w with
    | some (.normal, a', w') => runL f m a' w'
    | r => r

def runC (P : Program) (call : FuncId → Array Value → World → Option (Value × World)) : Nat → Code → Act → World → Option (Exit × Act × World)
  | 0, _, _, _ => none
  | n + 1, c, a, w =>
    match c with
    | .skip => some (.normal, a, w)
    | .ret => some (.ret, a, w)
    | .exit id => some (.exit id, a, w)
    | .seq x y =>
      match runC P call n x a w with
      | some (.normal, a', w') => runC P call n y a' w'
      | r => r
    | .region _ ops false => (runO P call ops ops.toList a w).map fun x => (.normal, x.1, x.2)
    | .cond c x y =>
      match a.eval c with
      | .bool true => runC P call n x a w
      | .bool false => runC P call n y a w
      | _ => none
    | .block id c =>
      match runC P call n c a w with
      | some (.exit id', a', w') => if id' = id then some (.normal, a', w') else some (.exit id', a', w')
      | r => r
    | .loop c => runL (runC P call n c) 100 a w
    | _ => none

def runF (P : Program) : Nat → FuncId → Array Value → World → Option (Value × World)
  | 0, _, _, _ => none
  | n + 1, f, args, w =>
    match P.funcs[f]? with
    | none => none
    | some fn =>
      match fn.body with
      | none => none
      | some c =>
        match runC P (runF P n) (n + 1) c { tmps := args ++ Array.replicate (fn.ntmps - args.size) undef, defers := [] } w with
        | some (.ret, a, w') | some (.normal, a, w') =>
          match a.defers, fn.results.toList with
          | [], [.tmp t] => some (a.tmps.getD t undef, w')
          | [], [.tmp t, .tmp u] => some (.tuple #[a.tmps.getD t undef, a.tmps.getD u undef], w')
          | _, _ => none
        | _ => none

theorem runO_sound {P : Program} {call : FuncId → Array Value → World → Option (Value × World)}
    (hcall : ∀ f args w v w', call f args w = some (v, w') → Calls P f args w fun e w'' => e = .returned v ∧ w'' = w') {ops : Array Oper} {Q : Exit → Act → World → Prop} :
    ∀ (l : List Oper) (a : Act) (w : World) (a' : Act) (w' : World), runO P call ops l a w = some (a', w') → Q .normal a' w' → wpList P ops Q l a w
  | [], a, w, a', w', h, q => by simp [runO] at h; obtain ⟨rfl, rfl⟩ := h; exact q
  | o :: rest, a, w, a', w', h, q => by
    unfold runO at h
    unfold wpList
    by_cases hw : Region.wanted o (yielded ops a.tmps) = true
    · rw [if_pos hw] at h ⊢
      refine .inl ?_
      unfold Oper.wp
      split at h
      · rename_i v w1 hr; rw [hr]; exact runO_sound hcall rest _ _ _ _ h q
      · rename_i w1 hr; rw [hr]; exact runO_sound hcall rest _ _ _ _ h q
      · rename_i f args w1 hr
        rw [hr]
        split at h
        · rename_i v w2 hc
          refine (hcall _ _ _ _ _ hc).mono ?_
          rintro e w'' ⟨rfl, rfl⟩
          exact runO_sound hcall rest _ _ _ _ h q
        · simp at h
      · simp at h
    · rw [if_neg hw] at h ⊢
      exact runO_sound hcall rest _ _ _ _ h q

theorem runL_sound {P : Program} {Q : Exit → Act → World → Prop} {c : Code} {f : Act → World → Option (Exit × Act × World)}
    (hf : ∀ (Q : Exit → Act → World → Prop) a w e a' w', f a w = some (e, a', w') → Q e a' w' → c.wp P Q a w) :
    ∀ (m : Nat) (a : Act) (w : World) (e : Exit) (a' : Act) (w' : World), runL f m a w = some (e, a', w') → Q e a' w' → e ≠ .normal → Code.rounds P c Q m a w
  | 0, a, w, e, a', w', h, q, hne => by simp [runL] at h
  | m + 1, a, w, e, a', w', h, q, hne => by
    unfold runL at h
    rw [rounds_succ]
    split at h
    · rename_i a1 w1 h1
      exact hf _ _ _ _ _ _ h1 (runL_sound hf m _ _ _ _ _ h q hne)
    · refine hf _ _ _ _ _ _ h ?_
      cases e <;> first | exact absurd rfl hne | exact q

theorem runL_ne {f : Act → World → Option (Exit × Act × World)} : ∀ (m : Nat) (a : Act) (w : World) (e : Exit) (a' : Act) (w' : World), runL f m a w = some (e, a', w') → e ≠ .normal
  | 0, a, w, e, a', w', h => by simp [runL] at h
  | m + 1, a, w, e, a', w', h => by
    unfold runL at h
    split at h
    · exact runL_ne m _ _ _ _ _ h
    · rename_i hn
      rintro rfl
      exact hn _ _ h

theorem runC_sound {P : Program} {call : FuncId → Array Value → World → Option (Value × World)}
    (hcall : ∀ f args w v w', call f args w = some (v, w') → Calls P f args w fun e w'' => e = .returned v ∧ w'' = w') :
    ∀ (n : Nat) (c : Code) (Q : Exit → Act → World → Prop) (a : Act) (w : World) (e : Exit) (a' : Act) (w' : World), runC P call n c a w = some (e, a', w') → Q e a' w' → c.wp P Q a w
  | 0, c, Q, a, w, e, a', w', h, q => by simp [runC] at h
  | n + 1, c, Q, a, w, e, a', w', h, q => by
    unfold runC at h
    split at h
    · simp at h; obtain ⟨rfl, rfl, rfl⟩ := h; exact wp_skip q
    · simp at h; obtain ⟨rfl, rfl, rfl⟩ := h; exact wp_ret q
    · simp at h; obtain ⟨rfl, rfl, rfl⟩ := h; exact wp_exit q
    · rename_i x y
      refine wp_seq ?_
      split at h
      · rename_i a1 w1 h1
        exact runC_sound hcall n x _ _ _ _ _ _ h1 (runC_sound hcall n y _ _ _ _ _ _ h q)
      · rename_i hn
        refine runC_sound hcall n x _ _ _ _ _ _ h ?_
        cases e <;> first | exact (hn _ _ h).elim | exact q
    · simp only [Option.map_eq_some_iff, Prod.mk.injEq] at h
      obtain ⟨⟨a1, w1⟩, h1, rfl, rfl, rfl⟩ := h
      exact wp_region_list (runO_sound hcall _ _ _ _ _ h1 q)
    · split at h
      · rename_i hc; exact wp_cond_true hc (runC_sound hcall n _ _ _ _ _ _ _ h q)
      · rename_i hc; exact wp_cond_false hc (runC_sound hcall n _ _ _ _ _ _ _ h q)
      · simp at h
    · rename_i id c
      refine wp_block ?_
      split at h
      · rename_i id' a1 w1 h1
        refine runC_sound hcall n c _ _ _ _ _ _ h1 ?_
        split at h
        · rename_i hid; simp at h; obtain ⟨rfl, rfl, rfl⟩ := h; simpa [Exit.inBlock, hid] using q
        · rename_i hid; simp at h; obtain ⟨rfl, rfl, rfl⟩ := h; simpa [Exit.inBlock, hid] using q
      · rename_i hn
        refine runC_sound hcall n c _ _ _ _ _ _ h ?_
        cases e <;> first | exact (hn _ _ _ h).elim | exact q
    · rename_i c
      exact wp_loop_rounds 100 (runL_sound (fun Q a w e a' w' h q => runC_sound hcall n c Q a w e a' w' h q) 100 _ _ _ _ _ h q (runL_ne 100 _ _ _ _ _ h))
    · simp at h

theorem runF_sound {P : Program} : ∀ (n : Nat) (f : FuncId) (args : Array Value) (w : World) (v : Value) (w' : World), runF P n f args w = some (v, w') → Calls P f args w fun e w'' => e = .returned v ∧ w'' = w'
  | 0, f, args, w, v, w', h => by simp [runF] at h
  | n + 1, f, args, w, v, w', h => by
    unfold runF at h
    split at h
    · simp at h
    · rename_i fn hf
      split at h
      · simp at h
      · rename_i c hc
        refine calls_of_wp hf hc ?_
        split at h
        · rename_i a1 w1 h1
          split at h
          · rename_i t hd hr
            simp only [Option.some.injEq, Prod.mk.injEq] at h; obtain ⟨rfl, rfl⟩ := h
            exact runC_sound (runF_sound n) _ _ _ _ _ _ _ _ h1 (bodyPost_ret (results_tmp (t := t) (by rw [← Array.toList_inj, hr]) _ _ _) hd ⟨rfl, rfl⟩)
          · rename_i t u hd hr
            simp only [Option.some.injEq, Prod.mk.injEq] at h; obtain ⟨rfl, rfl⟩ := h
            exact runC_sound (runF_sound n) _ _ _ _ _ _ _ _ h1 (bodyPost_ret (results_tmp2 (t := t) (u := u) (by rw [← Array.toList_inj, hr]) _ _ _) hd ⟨rfl, rfl⟩)
          · simp at h
        · rename_i a1 w1 h1
          split at h
          · rename_i t hd hr
            simp only [Option.some.injEq, Prod.mk.injEq] at h; obtain ⟨rfl, rfl⟩ := h
            exact runC_sound (runF_sound n) _ _ _ _ _ _ _ _ h1 (bodyPost_end (results_tmp (t := t) (by rw [← Array.toList_inj, hr]) _ _ _) hd ⟨rfl, rfl⟩)
          · rename_i t u hd hr
            simp only [Option.some.injEq, Prod.mk.injEq] at h; obtain ⟨rfl, rfl⟩ := h
            exact runC_sound (runF_sound n) _ _ _ _ _ _ _ _ h1 (bodyPost_end (results_tmp2 (t := t) (u := u) (by rw [← Array.toList_inj, hr]) _ _ _) hd ⟨rfl, rfl⟩)
          · simp at h
        · simp at h

theorem calls_run {P : Program} (n : Nat) {f : FuncId} {args : Array Value} {w : World} {v : Value} (h : runF P n f args w = some (v, w)) :
    Calls P f args w fun e w' => e = .returned v ∧ w = w' := (runF_sound n f args w v w h).mono fun _ _ ⟨h1, h2⟩ => ⟨h1, h2.symm⟩
end Go.Proofs.Ytpdfmeaemlgniaa
