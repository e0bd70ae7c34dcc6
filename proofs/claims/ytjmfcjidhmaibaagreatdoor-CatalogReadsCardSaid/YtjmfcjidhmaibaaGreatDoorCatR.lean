/-
  Plain mathematics: what is added, found, dropped.
-/
import Derived.Test.YtjmfcjidhmaibaaGreatDoorCatL
namespace Go.Proofs.YtjmfcjidhmaibaaGreatDoor
open Go.Lib hiding intOf
set_option linter.unusedVariables false

theorem cat_nodup {l : List Tab} (h : isCat l = true) : (l.map Tab.n).Nodup := by
  unfold isCat fitsL at h
  simp only [Bool.and_eq_true, decide_eq_true_eq] at h
  exact h.2.1
theorem cat_mk {l : List Tab} (h1 : l.length ≤ 4) (h2 : (l.map Tab.n).Nodup) (h3 : ∀ t ∈ l, isTab t = true) : isCat l = true := by
  unfold isCat fitsL
  simp only [Bool.and_eq_true, decide_eq_true_eq]
  exact ⟨h1, h2, List.all_eq_true.2 h3⟩
theorem add_cases {l : List Tab} {t : Tab} (h : isCat l = true) :
    (addE l t = 0 ∧ isTab t = true ∧ t.n ∉ l.map Tab.n ∧ l.length < 4 ∧ addL l t = l ++ [t]) ∨ (addE l t = 5 ∧ t.n ∈ l.map Tab.n ∧ addL l t = []) ∨ (addE l t ≠ 0 ∧ addE l t ≠ 5 ∧ addL l t = []) := by
  have hl := cat_len h
  unfold addL addE
  rw [if_neg (by rw [h]; simp)]
  by_cases h2 : isTab t = false
  · rw [if_pos h2]
    right; right
    exact ⟨by decide, by decide, by rw [if_neg (by decide)]⟩
  · rw [if_neg h2]
    by_cases h3 : fnd (l.map Tab.n) t.n < l.length
    · rw [if_pos h3]
      right; left
      exact ⟨rfl, fnd_mem.1 (by rw [List.length_map]; exact h3), by rw [if_neg (by decide)]⟩
    · rw [if_neg h3]
      by_cases h4 : l.length = 4
      · rw [if_pos h4]
        right; right
        exact ⟨by decide, by decide, by rw [if_neg (by decide)]⟩
      · rw [if_neg h4]
        left
        exact ⟨rfl, by simpa using h2, fun hm => h3 (by have := fnd_mem.2 hm; rwa [List.length_map] at this), by omega, by rw [if_pos rfl]⟩
theorem cat_append {l : List Tab} {t : Tab} (h : isCat l = true) (ht : isTab t = true) (hn : t.n ∉ l.map Tab.n) (h4 : l.length < 4) : isCat (l ++ [t]) = true := by
  refine cat_mk (by simp; omega) ?_ ?_
  · rw [List.map_append, List.nodup_append]
    refine ⟨cat_nodup h, by simp, ?_⟩
    intro a ha b hb
    obtain rfl : b = t.n := by simpa using hb
    exact fun e => hn (e ▸ ha)
  · intro u hu
    rcases List.mem_append.1 hu with hu | hu
    · exact cat_tab h u hu
    · obtain rfl : u = t := by simpa using hu
      exact ht
theorem fnd_last {l : List Tab} {t : Tab} (hn : t.n ∉ l.map Tab.n) : fnd ((l ++ [t]).map Tab.n) t.n = l.length := by
  refine fnd_here _ _ _ (by simp) fun x hx e => ?_
  rw [List.map_append, List.take_append_of_le_length (by simp), List.take_of_length_le (by simp)] at hx
  exact hn (e ▸ hx)
theorem drop_last {l : List Tab} {t : Tab} (h : isCat (l ++ [t]) = true) (hn : t.n ∉ l.map Tab.n) : dropE (l ++ [t]) t.n = 0 ∧ dropL (l ++ [t]) t.n = l := by
  have hf := fnd_last hn
  have he : dropE (l ++ [t]) t.n = 0 := by
    unfold dropE
    rw [if_neg (by rw [h]; simp), hf, if_pos (by simp)]
  refine ⟨he, ?_⟩
  unfold dropL
  rw [if_pos he, hf, List.take_append_of_le_length (by omega), List.take_of_length_le (by omega), List.drop_of_length_le (by simp), List.append_nil]
theorem drop_there {l : List Tab} {name : ByteArray} (h : isCat l = true) (hm : name ∈ l.map Tab.n) :
    dropE l name = 0 ∧ (dropL l name).length + 1 = l.length ∧ ¬ fnd ((dropL l name).map Tab.n) name < (dropL l name).length ∧ fnd (l.map Tab.n) name < l.length := by
  have hlt : fnd (l.map Tab.n) name < l.length := by have := fnd_mem.2 hm; rwa [List.length_map] at this
  have he : dropE l name = 0 := by
    unfold dropE
    rw [if_neg (by rw [h]; simp), if_pos hlt]
  have hL : dropL l name = l.take (fnd (l.map Tab.n) name) ++ l.drop (fnd (l.map Tab.n) name + 1) := by unfold dropL; rw [if_pos he]
  refine ⟨he, ?_, ?_, hlt⟩
  · rw [hL, List.length_append, List.length_take, List.length_drop]; omega
  · intro hc
    have hm2 : name ∈ (dropL l name).map Tab.n := fnd_mem.1 (by rw [List.length_map]; exact hc)
    have hnd := cat_nodup h
    have hg := fnd_lt (ns := l.map Tab.n) (s := name) (by rw [List.length_map]; exact hlt)
    generalize fnd (l.map Tab.n) name = k at *
    rw [hL, List.map_append, List.map_take, List.map_drop] at hm2
    generalize l.map Tab.n = ns at *
    unfold List.Nodup at hnd
    rw [List.pairwise_iff_getElem] at hnd
    obtain ⟨hk, hkn⟩ := List.getElem?_eq_some_iff.1 hg
    rcases List.mem_append.1 hm2 with hm3 | hm3
    · rw [List.mem_take_iff_getElem] at hm3
      obtain ⟨i, hi, e⟩ := hm3
      exact hnd i k (by omega) hk (by omega) (by rw [e, hkn])
    · rw [List.mem_drop_iff_getElem] at hm3
      obtain ⟨i, hi, e⟩ := hm3
      exact hnd k (k + 1 + i) hk (by omega) (by omega) (by rw [hkn, e])
theorem cat_ok {l : List Tab} (h : isCat l = true) : TabsOK l := fun t ht => by
  have := tab_small (cat_tab h t ht)
  unfold maxLen
  omega
theorem drop_ok {l : List Tab} {name : ByteArray} (h : isCat l = true) : TabsOK (dropL l name) := fun t ht => by
  refine cat_ok h t ?_
  unfold dropL at ht
  split at ht
  · rcases List.mem_append.1 ht with ht | ht
    · exact List.mem_of_mem_take ht
    · exact List.mem_of_mem_drop ht
  · simp at ht
theorem dropL_len {l : List Tab} {name : ByteArray} : (dropL l name).length ≤ l.length := by
  unfold dropL
  split
  · rw [List.length_append, List.length_take, List.length_drop]; omega
  · simp
end Go.Proofs.YtjmfcjidhmaibaaGreatDoor
