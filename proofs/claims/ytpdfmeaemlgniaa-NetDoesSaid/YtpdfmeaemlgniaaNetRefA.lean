
/-
  What is read stays: nets that were answered, whatever is done elsewhere. A list without one, made by append.
-/
import Derived.Test.YtpdfmeaemlgniaaNetY
import Derived.Test.YtpdfmeaemlgniaaNetN
import Derived.ArgAppend
import Derived.Deep.Upon
import Derived.Lib.AppendZeros
namespace Go.Proofs.Ytpdfmeaemlgniaa
open Go.RowKit
open Go.Lib hiding intOf
set_option linter.unusedVariables false
set_option linter.unusedSimpArgs false
/-- v reads as l, and stays so whatever is written below A or in what is new -/
def Qs (A : Nat) (w : World) (v : Value) (l : List Par) : Prop := ∀ X w', (∀ k ∈ X, k < A ∨ w.heap.size ≤ k) → Ext X w w' → Ps w' v l
theorem Qs.ps {A : Nat} {w : World} {v : Value} {l : List Par} (h : Qs A w v l) : Ps w v l := h [] w (by simp) (Ext.refl _ _)
theorem Qs.keep {A : Nat} {w w' : World} {v : Value} {l : List Par} (h : Qs A w v l) {X : List Nat} (he : Ext X w w') (hX : ∀ k ∈ X, k < A ∨ w.heap.size ≤ k) : Qs A w' v l := fun Y w'' hY he' => by
  have hs := he.size
  refine h (X ++ Y) w'' (fun k hk => ?_) ((he.mono (fun k _ hi => List.mem_append_left _ hi)).trans (he'.mono (fun k _ hi => List.mem_append_right _ hi)))
  rcases List.mem_append.1 hk with hk | hk
  · exact hX k hk
  · rcases hY k hk with h1 | h1
    · exact .inl h1
    · exact .inr (by omega)
theorem Qs.mono {A B : Nat} {w : World} {v : Value} {l : List Par} (h : Qs B w v l) (hb : A ≤ B) : Qs A w v l := fun X w' hX he => h X w' (fun k hk => by have := hX k hk; omega) he
theorem Qs.shape {A : Nat} {w : World} {v : Value} {l : List Par} (h : Qs A w v l) : ∃ a c, v = .slice a l.length c := h.ps.shape
theorem OPs.qs {A : Nat} {w : World} {v : Value} {l : List Par} {rs : List PRaw} (h : OPs A w v l rs) : Qs A w v l := fun X w' hX he => (h.keep he hX).ps
theorem Qs.nil (A : Nat) (w : World) : Qs A w (.slice none 0 0) [] := fun X w' hX he => Ps.nil w'
/-- a list of some of these, laid elsewhere -/
theorem Qs.of {A : Nat} {w : World} {v : Value} {l : List Par} {rs : List PRaw} (hR : ∀ X w', (∀ k ∈ X, k < A ∨ w.heap.size ≤ k) → Ext X w w' → ∃ ob, Rs w' v ob rs) (hA : OAll A w rs l) : Qs A w v l := fun X w' hX he => by
  obtain ⟨ob, h1⟩ := hR X w' hX he
  refine ⟨ob, rs, h1, hA.1, fun k r p h2 h3 => ?_⟩
  have h4 := hA.2 k r p h2 h3
  exact (h4.keep he (fun b hb m => by have := own_block h4.2.2.2.2 hb; have := hX b m; omega)).pis (by simp)
theorem OAll.erase {A : Nat} {w : World} {rs : List PRaw} {l : List Par} (h : OAll A w rs l) (i : Nat) : OAll A w (rs.eraseIdx i) (l.eraseIdx i) := by
  refine ⟨by rw [List.length_eraseIdx, List.length_eraseIdx, h.1], fun k r p h1 h2 => ?_⟩
  rw [List.getElem?_eraseIdx] at h1 h2
  split at h1
  · rename_i hk; rw [if_pos hk] at h2; exact h.2 _ r p h1 h2
  · rename_i hk; rw [if_neg hk] at h2; exact h.2 _ r p h1 h2
theorem OAll.keepAll {A : Nat} {w w' : World} {rs : List PRaw} {l : List Par} (h : OAll A w rs l) (he : Ext [] w w') : OAll A w' rs l := ⟨h.1, fun k r p h1 h2 => (h.2 k r p h1 h2).keep he (by simp)⟩
theorem step_append_run {P : Program} {w : World} {ops : Array Oper} {o : Oper} {a : Act} {K : Act → World → Prop} {Q : Exit → Act → World → Prop} {E : Prop} (hgd : o.guard = none) (s x : Operand) (t tn : TypeId)
    (ho : o.op = .call { callee := .builtin .append, args := #[s, x], argTypes := #[t, tn] }) (vs vx : Value) (hs : a.eval s = vs) (hx : a.eval x = vx)
    (v' : Value) (w' : World) (hr : (Builtin.append_ #[t, tn] o.type #[vs, vx]).run P w = .ok v' w') (h : K (a.put o.dst v') w') : if Region.wanted o (yielded ops a.tmps) = true then Oper.wp P o a w K Q else E := by
  have hw : Region.wanted o (yielded ops a.tmps) = true := by simp [Region.wanted, hgd]
  rw [if_pos hw]
  exact Go.Lib.wp_append_run w s x t tn ho vs vx hs hx v' w' hr h
set_option maxRecDepth 100000 in
/-- append(s[:i:i], s[i+1:]...) -/
theorem cut_out {A : Nat} {W : World} {l : List Par} {rs : List PRaw} {g cap i : Nat} (ty : TypeId) (hO : OPs A W (.slice (some ⟨g, 0, none⟩) l.length cap) l rs) (hi : i < l.length) (hl : l.length ≤ 20000) :
    ∃ v' W', (Builtin.append_ #[23, 23] ty #[.slice (some ⟨g, 0, none⟩) i i, sliced (some ⟨g, 0, none⟩) (i + 1) l.length cap 5]).run Try.prog W = .ok v' W' ∧ (∃ a' n' c', v' = .slice a' n' c') ∧ Ext [] W W' ∧ Qs A W' v' (l.eraseIdx i) := by
  obtain ⟨ii, i1, i2, i3, i4⟩ := TPar.info
  have hrl := hO.all.1
  have hAW : A ≤ g ∧ g < W.heap.size := by
    have := own_block hO.own (g := g) rfl
    exact ⟨this.1, this.2.1⟩
  rcases own_blk hO.own with ⟨h, _⟩ | ⟨g', cap', rest, h, hg, hB, hn, hc, hlen⟩
  · simp at h
  · simp only [Value.slice.injEq, Option.some.injEq, Addr.mk.injEq] at h
    obtain ⟨⟨rfl, _⟩, _, rfl⟩ := h
    have hfl := flat_length wideP rs
    have h1 := hO.all.one
    have hcell : ∀ j u, (prows rs)[j]? = some u → W.cell? ⟨g, j, none⟩ = some u := fun j u hu => by
      rw [hB.cell]
      rw [List.getElem?_append_left (List.getElem?_eq_some_iff.1 hu).1]; exact hu
    have hE := hO.all.erase i
    have hEl : (rs.eraseIdx i).length = l.length - 1 := by rw [List.length_eraseIdx, if_pos (by omega), hrl]
    have hcap : cap ≤ maxLen := hc
    have hOl : ∀ j u, (prows (rs.take i))[j]? = some u → W.cell? ((⟨g, 0, none⟩ : Addr).add j) = some u := fun j u hu => by
      rw [add_off, Nat.zero_add]
      refine hcell j u ?_
      rw [prows, ← flat_take wideP, List.getElem?_take] at hu
      split at hu
      · exact hu
      · cases hu
    have hOlen : (prows (rs.take i)).length = i * 5 := by rw [flat_length wideP, List.length_take]; congr 1; omega
    by_cases ht : i + 1 = l.length
    · have hs : sliced (some ⟨g, 0, none⟩) (i + 1) l.length cap 5 = .slice (if cap = i + 1 then some ⟨g, 0, none⟩ else some ⟨g, (i + 1) * 5, none⟩) 0 (cap - (i + 1)) := by
        unfold sliced
        by_cases hci : cap = i + 1
        · simp [hci, ht]
        · simp [hci, ht, add_off]
      rw [hs]
      refine ⟨.slice (some ⟨g, 0, none⟩) i i, W, ?_, ⟨_, _, _, rfl⟩, Ext.refl _ _, ?_⟩
      · have hsrc : Src Try.prog ii.size 23 (.slice (if cap = i + 1 then some ⟨g, 0, none⟩ else some ⟨g, (i + 1) * 5, none⟩) 0 (cap - (i + 1))) 0 [] W := by
          split
          · exact Src.ofSlice W Try.underlying23 _ 0 _ [] (by simp) (by simp) (by simp)
          · exact Src.ofSlice W Try.underlying23 _ 0 _ [] (by simp) (by simp) (by simp)
        exact run_append_nothing W _ _ ty _ ii Try.underlying23 i1 _ i i (Nat.le_refl _) _ hsrc
      · refine Qs.of (rs := rs.eraseIdx i) (fun X w' hX he => ⟨g, ?_⟩) hE
        have hgX : g ∉ X := fun m => by have := hX g m; omega
        have htk : rs.eraseIdx i = rs.take i := by rw [List.eraseIdx_eq_take_drop_succ, List.drop_of_length_le (by omega), List.append_nil]
        rw [htk]
        refine ⟨flat_length wideP _, .inr ⟨0, none, i, ?_, ?_, by omega, .inr rfl, fun j u hu => ?_⟩⟩
        · rw [List.length_take, Nat.min_eq_left (by omega)]
        · rw [List.length_take]; omega
        · have := hOl j u hu
          rw [add_off, Nat.zero_add] at this
          rw [Nat.zero_add]
          exact he.read this hgX
    · have hcn : ¬ cap = i + 1 := by omega
      have hs : sliced (some ⟨g, 0, none⟩) (i + 1) l.length cap 5 = .slice (some ⟨g, (i + 1) * 5, none⟩) (l.length - (i + 1)) (cap - (i + 1)) := by
        unfold sliced
        simp [hcn, add_off]
      rw [hs]
      have hnl : (prows (rs.drop (i + 1))).length = (l.length - (i + 1)) * 5 := by rw [flat_length wideP, List.length_drop, hrl]
      have hnews : ∀ j u, (prows (rs.drop (i + 1)))[j]? = some u → W.cell? ((⟨g, (i + 1) * 5, none⟩ : Addr).add j) = some u := fun j u hu => by
        rw [add_off]
        refine hcell _ u ?_
        rw [prows, ← flat_drop wideP, List.getElem?_drop] at hu
        exact hu
      obtain ⟨v', w', hr, hown, hgr⟩ := run_append_arg_grows (P := Try.prog) W 23 ty 33 ii zPV 5 56 Try.underlying23 i1 i2 i3 i4 TPar.zc (by decide) ⟨g, 0, none⟩ i i (prows (rs.take i)) hOlen hOl ⟨g, (i + 1) * 5, none⟩ (l.length - (i + 1)) (cap - (i + 1)) (prows (rs.drop (i + 1))) hnl hnews (by omega) (by unfold maxLen; omega) (by omega)
      have hx : Ext [] W w' := Ext.ofGrown hgr
      have hpe : prows (rs.take i) ++ prows (rs.drop (i + 1)) = prows (rs.eraseIdx i) := by
        show flat PRaw.row (rs.take i) ++ flat PRaw.row (rs.drop (i + 1)) = flat PRaw.row (rs.eraseIdx i)
        rw [List.eraseIdx_eq_take_drop_succ, flat_append]
      rw [hpe, show i + (l.length - (i + 1)) = (rs.eraseIdx i).length by omega] at hown
      obtain ⟨a', c', rfl⟩ := own_shape hown
      refine ⟨_, w', hr, ⟨_, _, _, rfl⟩, hx, Qs.of (rs := rs.eraseIdx i) (fun X w'' hX he => ?_) (hE.keepAll hx)⟩
      have hs' := hx.size
      have h2 := own_ext hown he (fun k hk m => by have := own_block hown hk; have := hX k m; omega)
      obtain ⟨ob, h3, _⟩ := Sl.of_own h2
      exact ⟨ob, h3⟩
end Go.Proofs.Ytpdfmeaemlgniaa
