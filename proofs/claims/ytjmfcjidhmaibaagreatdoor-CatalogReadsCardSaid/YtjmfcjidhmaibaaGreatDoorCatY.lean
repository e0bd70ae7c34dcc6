/-
  Plain mathematics of lines: words between blanks, what stands behind the word by.
-/
import Derived.Test.YtjmfcjidhmaibaaGreatDoorCatP
import Derived.Test.YtjmfcjidhmaibaaGreatDoorCatR
import Derived.Lib.SplitLaws
import Derived.Lib.CutLaws
namespace Go.Proofs.YtjmfcjidhmaibaaGreatDoor
open Go.Lib
set_option linter.unusedVariables false

/-! ## words between blanks -/
abbrev W8 := List UInt8
def wds : List UInt8 → List W8
  | [] => [[]]
  | c :: r => if c = 32 then [] :: wds r else match wds r with
    | [] => [[c]]
    | w :: t => (c :: w) :: t
theorem wds_ne : ∀ l, wds l ≠ []
  | [] => by simp [wds]
  | c :: r => by
    unfold wds
    split
    · simp
    · split <;> simp
theorem join_more (w v : W8) (r : List W8) : join (w :: v :: r) [32] = w ++ 32 :: join (v :: r) [32] := by
  rw [join_cons, join_cons]; simp [joinTail]
theorem join_head (c : UInt8) (w : W8) (t : List W8) : join ((c :: w) :: t) [32] = c :: join (w :: t) [32] := by
  rw [join_cons, join_cons]; rfl
theorem wds_join : ∀ l, join (wds l) [32] = l
  | [] => rfl
  | c :: r => by
    have ih := wds_join r
    have hn := wds_ne r
    unfold wds
    split
    · rename_i h
      cases hw : wds r with
      | nil => exact absurd hw hn
      | cons v t => rw [join_more, ← hw, ih, h]; rfl
    · split
      · rename_i hw; exact absurd hw hn
      · rename_i w t hw
        rw [join_head, ← hw, ih]
theorem wds_pure : ∀ l, ∀ w ∈ wds l, (32 : UInt8) ∉ w
  | [], w, h => by simp [wds] at h; subst h; simp
  | c :: r, w, h => by
    have ih := wds_pure r
    unfold wds at h
    split at h
    · rcases List.mem_cons.1 h with rfl | h
      · simp
      · exact ih w h
    · rename_i hc
      split at h
      · rename_i hw; exact absurd hw (wds_ne r)
      · rename_i v t hw
        rcases List.mem_cons.1 h with rfl | h
        · intro hm
          rcases List.mem_cons.1 hm with e | hm
          · exact hc e.symm
          · exact ih v (by rw [hw]; simp) hm
        · exact ih w (by rw [hw]; simp [h])
theorem wds_word (w : W8) (h : (32 : UInt8) ∉ w) : wds w = [w] := by
  induction w with
  | nil => rfl
  | cons c r ih =>
    unfold wds
    rw [if_neg (fun e => h (by simp [e])), ih (fun hm => h (by simp [hm]))]
theorem wds_more (w : W8) (l : List UInt8) (h : (32 : UInt8) ∉ w) : wds (w ++ 32 :: l) = w :: wds l := by
  induction w with
  | nil => simp [wds]
  | cons c r ih =>
    rw [List.cons_append, wds, if_neg (fun e => h (by simp [e])), ih (fun hm => h (by simp [hm]))]
theorem wds_of_join : ∀ ws : List W8, ws ≠ [] → (∀ w ∈ ws, (32 : UInt8) ∉ w) → wds (join ws [32]) = ws
  | [], h, _ => absurd rfl h
  | [w], _, h => by rw [join_one]; exact wds_word w (h w (by simp))
  | w :: v :: r, _, h => by
    rw [join_more, wds_more _ _ (h w (by simp)), wds_of_join (v :: r) (by simp) (fun x hx => h x (by simp [hx]))]

/-! ## what stands behind the word by -/
abbrev wBy : W8 := [98, 121]
def cutW : List W8 → List W8 × List W8 × Bool
  | [] => ([], [], false)
  | w :: r => if r.head? = some wBy ∧ 2 ≤ r.length then ([w], r.tail, true) else (w :: (cutW r).1, (cutW r).2.1, (cutW r).2.2)
theorem cut_nil (a : UInt8) (s : List UInt8) : cut [] (a :: s) = ([], [], false) := by
  unfold cut index
  simp
theorem cut_cons (c : UInt8) (r : List UInt8) (a : UInt8) (s : List UInt8) : cut (c :: r) (a :: s) = if (a :: s).isPrefixOf (c :: r) then ([], (c :: r).drop (a :: s).length, true) else (c :: (cut r (a :: s)).1, (cut r (a :: s)).2) := by
  unfold cut
  by_cases h : (a :: s).isPrefixOf (c :: r) = true
  · rw [if_pos h, show index (c :: r) (a :: s) = 0 by unfold index; rw [if_pos h]]
    simp
  · rw [if_neg h]
    have hi : index (c :: r) (a :: s) = if index r (a :: s) == -1 then -1 else index r (a :: s) + 1 := by
      conv => lhs; unfold index
      rw [if_neg h]
    have hg := index_ge r (a :: s)
    by_cases h1 : index r (a :: s) = -1
    · rw [hi, h1]; simp
    · have h2 : 0 ≤ index r (a :: s) := by omega
      have hi2 : index (c :: r) (a :: s) = index r (a :: s) + 1 := by rw [hi, if_neg (by simpa using h1)]
      rw [hi2, if_pos (show 0 ≤ index r (a :: s) + 1 by omega), if_pos h2]
      have e1 : (index r (a :: s) + 1).toNat = (index r (a :: s)).toNat + 1 := by omega
      rw [e1, List.take_succ_cons, show (index r (a :: s)).toNat + 1 + (a :: s).length = ((index r (a :: s)).toNat + (a :: s).length) + 1 by omega, List.drop_succ_cons]
theorem cut_skip (s : List UInt8) (l : List UInt8) : ∀ w : W8, (32 : UInt8) ∉ w → cut (w ++ l) (32 :: s) = (w ++ (cut l (32 :: s)).1, (cut l (32 :: s)).2)
  | [], _ => by simp
  | c :: r, h => by
    have hp : (32 :: s).isPrefixOf (c :: (r ++ l)) = false := by
      have : ¬ (32 : UInt8) = c := fun e => h (by simp [e])
      simp [List.isPrefixOf, this]
    rw [List.cons_append, cut_cons, hp, cut_skip s l r (fun hm => h (by simp [hm]))]
    simp
abbrev sBy : List UInt8 := [32, 98, 121, 32]
theorem by_prefix (v : W8) (r : List W8) (h : (32 : UInt8) ∉ v) : sBy.isPrefixOf (32 :: join (v :: r) [32]) = decide (v = wBy ∧ r ≠ []) := by
  have hx : ∀ x : UInt8, x ∈ v → ¬ (32 : UInt8) = x := fun x hx e => h (e ▸ hx)
  match v, r with
  | [], [] => simp [join_one, List.isPrefixOf]
  | [], y :: t => rw [join_more]; simp [List.isPrefixOf]
  | [a], [] => simp [join_one, List.isPrefixOf]
  | [a], y :: t => rw [join_more]; simp [List.isPrefixOf]
  | [a, b], [] => simp [join_one, List.isPrefixOf]
  | [a, b], y :: t =>
    rw [join_more, Bool.eq_iff_iff]
    simp [List.isPrefixOf]
    exact ⟨fun h => ⟨h.1.symm, h.2.symm⟩, fun h => ⟨h.1.symm, h.2.symm⟩⟩
  | a :: b :: c :: u, r =>
    have := hx c (by simp)
    rw [join_head, join_head, join_head]
    simp [List.isPrefixOf, this]
theorem cutW_ne : ∀ ws : List W8, ws ≠ [] → (cutW ws).1 ≠ []
  | [], h => absurd rfl h
  | w :: r, _ => by unfold cutW; split <;> simp
theorem cut_words : ∀ ws : List W8, ws ≠ [] → (∀ w ∈ ws, (32 : UInt8) ∉ w) → cut (join ws [32]) sBy = (join (cutW ws).1 [32], join (cutW ws).2.1 [32], (cutW ws).2.2)
  | [], h, _ => absurd rfl h
  | [w], _, h => by
    have := cut_skip [98, 121, 32] [] w (h w (by simp))
    rw [List.append_nil, cut_nil] at this
    rw [join_one, this]
    simp [cutW, join_one, join_nil]
  | w :: v :: r, _, h => by
    have ih := cut_words (v :: r) (by simp) (fun x hx => h x (by simp [hx]))
    have hs := cut_skip [98, 121, 32] (32 :: join (v :: r) [32]) w (h w (by simp))
    rw [join_more, hs, cut_cons, by_prefix v r (h v (by simp))]
    have hc : cutW (w :: v :: r) = if (v :: r).head? = some wBy ∧ 2 ≤ (v :: r).length then ([w], (v :: r).tail, true) else (w :: (cutW (v :: r)).1, (cutW (v :: r)).2.1, (cutW (v :: r)).2.2) := rfl
    by_cases hb : v = wBy ∧ r ≠ []
    · have hb2 : (v :: r).head? = some wBy ∧ 2 ≤ (v :: r).length := by
        obtain ⟨rfl, h2⟩ := hb
        have := List.length_pos_iff.2 h2
        exact ⟨rfl, by simp; omega⟩
      rw [hc, if_pos hb2, if_pos (by simpa using hb)]
      obtain ⟨rfl, h2⟩ := hb
      cases r with
      | nil => exact absurd rfl h2
      | cons y t => rw [join_more]; simp [join_one]
    · have hb2 : ¬ ((v :: r).head? = some wBy ∧ 2 ≤ (v :: r).length) := by
        rintro ⟨h1, h2⟩
        refine hb ⟨by simpa using h1, ?_⟩
        rintro rfl
        simp at h2
      rw [hc, if_neg hb2, if_neg (by simpa using hb), ih]
      have hn := cutW_ne (v :: r) (by simp)
      cases hd : (cutW (v :: r)).1 with
      | nil => exact absurd hd hn
      | cons y t => simp [join_more]
theorem cutW_spec : ∀ ws : List W8, ws = (cutW ws).1 ++ (if (cutW ws).2.2 then wBy :: (cutW ws).2.1 else []) ∧ ((cutW ws).2.2 = true ↔ (cutW ws).2.1 ≠ [])
  | [] => by simp [cutW]
  | w :: r => by
    have ih := cutW_spec r
    have hc : cutW (w :: r) = if r.head? = some wBy ∧ 2 ≤ r.length then ([w], r.tail, true) else (w :: (cutW r).1, (cutW r).2.1, (cutW r).2.2) := rfl
    by_cases hb : r.head? = some wBy ∧ 2 ≤ r.length
    · rw [hc, if_pos hb]
      obtain ⟨h1, h2⟩ := hb
      match r, h1, h2 with
      | v :: x :: t, h1, h2 =>
        obtain rfl : v = wBy := by simpa using h1
        simp
    · rw [hc, if_neg hb]
      refine ⟨?_, ih.2⟩
      show w :: r = w :: _ ++ _
      rw [List.cons_append]
      exact congrArg _ ih.1
theorem cutW_pure {ws : List W8} (h : ∀ w ∈ ws, (32 : UInt8) ∉ w) : (∀ w ∈ (cutW ws).1, (32 : UInt8) ∉ w) ∧ (∀ w ∈ (cutW ws).2.1, (32 : UInt8) ∉ w) := by
  obtain ⟨h1, h2⟩ := cutW_spec ws
  refine ⟨fun w hw => h w (by rw [h1]; simp [hw]), fun w hw => ?_⟩
  have hne : (cutW ws).2.1 ≠ [] := List.ne_nil_of_mem hw
  rw [if_pos (h2.2 hne)] at h1
  exact h w (by rw [h1]; simp [hw])
theorem cutW_none : ∀ a : List W8, (∀ w ∈ a, w ≠ wBy) → cutW a = (a, [], false)
  | [], _ => rfl
  | w :: r, h => by
    unfold cutW
    rw [if_neg, cutW_none r (fun x hx => h x (by simp [hx]))]
    rintro ⟨h1, _⟩
    exact h wBy (by simp [List.mem_of_mem_head? (by rw [h1]; rfl : wBy ∈ r.head?)]) rfl
theorem cutW_some (b : List W8) (hb : b ≠ []) : ∀ a : List W8, a ≠ [] → (∀ w ∈ a, w ≠ wBy) → cutW (a ++ wBy :: b) = (a, b, true)
  | [], h, _ => absurd rfl h
  | [w], _, h => by
    show cutW (w :: wBy :: b) = _
    unfold cutW
    have := List.length_pos_iff.2 hb
    rw [if_pos ⟨rfl, by simp; omega⟩]
    rfl
  | w :: v :: r, _, h => by
    have ih := cutW_some b hb (v :: r) (by simp) (fun x hx => h x (by simp [hx]))
    show cutW (w :: ((v :: r) ++ wBy :: b)) = _
    unfold cutW
    rw [if_neg, ih]
    rintro ⟨h1, _⟩
    exact h v (by simp) (by simpa using h1)

/-! ## Split at blanks is wds -/
theorem index_blank (l : List UInt8) : (index l [32] = -1 ∧ (32 : UInt8) ∉ l) ∨ ∃ (w r : List UInt8), l = w ++ 32 :: r ∧ (32 : UInt8) ∉ w ∧ index l [32] = w.length := by
  induction l with
  | nil => exact .inl ⟨rfl, by simp⟩
  | cons c r ih =>
    by_cases hc : c = 32
    · subst hc
      exact .inr ⟨[], r, rfl, by simp, by unfold index; simp [List.isPrefixOf]⟩
    · have hp : [32].isPrefixOf (c :: r) = false := by
        have : ¬ (32 : UInt8) = c := fun e => hc e.symm
        simp [List.isPrefixOf, this]
      have hi : index (c :: r) [32] = if index r [32] == -1 then -1 else index r [32] + 1 := by
        conv => lhs; unfold index
        rw [hp]; rfl
      rcases ih with ⟨h1, h2⟩ | ⟨w, t, h1, h2, h3⟩
      · exact .inl ⟨by rw [hi, h1]; rfl, by
          intro hm
          rcases List.mem_cons.1 hm with e | hm
          · exact hc e.symm
          · exact h2 hm⟩
      · refine .inr ⟨c :: w, t, by rw [h1]; rfl, by
          intro hm
          rcases List.mem_cons.1 hm with e | hm
          · exact hc e.symm
          · exact h2 hm, ?_⟩
        rw [hi, h3, if_neg (by simp)]
        simp
theorem splitK_wds : ∀ (k : Nat) (l : List UInt8), count l [32] = k → splitK [32] 0 k l = wds l
  | 0, l, h => by
    rcases index_blank l with ⟨h1, h2⟩ | ⟨w, r, h1, h2, h3⟩
    · rw [wds_word l h2]; rfl
    · rw [count_hit (by simp) h3] at h; omega
  | k + 1, l, h => by
    rcases index_blank l with ⟨h1, h2⟩ | ⟨w, r, h1, h2, h3⟩
    · rw [count_miss h1] at h; omega
    · have hd : l.drop (w.length + 1) = r := by rw [h1]; simp
      have hk : count r [32] = k := by
        rw [count_hit (by simp) h3] at h
        have : l.drop (w.length + ([32] : List UInt8).length) = r := hd
        rw [this] at h
        omega
      unfold splitK
      rw [if_neg (by rw [h3]; simp), h3]
      have e1 : ((w.length : Int).toNat + 0) = w.length := by omega
      have e2 : (w.length : Int).toNat + ([32] : List UInt8).length = w.length + 1 := by simp
      rw [e1, e2, hd, splitK_wds k r hk, h1, wds_more _ _ h2]
      simp
theorem split_wds (s : ByteArray) : (splitB ⟨#[32]⟩ 0 (countB s ⟨#[32]⟩) s).map L = wds (L s) := by
  have h := splitB_data ⟨#[32]⟩ 0 (countB s ⟨#[32]⟩) s
  have h2 : (splitB ⟨#[32]⟩ 0 (countB s ⟨#[32]⟩) s).map L = splitK [32] 0 (countB s ⟨#[32]⟩) (L s) := h
  rw [h2]
  exact splitK_wds _ _ rfl
end Go.Proofs.YtjmfcjidhmaibaaGreatDoor
