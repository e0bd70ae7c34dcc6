
/-
  Tables and catalogs as an argument of a law.
-/
import Derived.Test.YtjmfcjidhmaibaaGreatDoorCatL
import Derived.Test.YtjmfcjidhmaibaaGreatDoorRep
namespace Go.Proofs.YtjmfcjidhmaibaaGreatDoor
open Go.RowKit
open Go.Lib
set_option linter.unusedVariables false

abbrev ColSh : Sh := .slice (.pair .str (.pair (.int .i64) .unit))
abbrev KeySh : Sh := .slice (.int .i64)
abbrev TabSh : Sh := .pair .str (.pair ColSh (.pair KeySh .unit))
abbrev TabsSh : Sh := .slice TabSh
def colOf (x : ByteArray × Int × Unit) : Col := ⟨x.1, x.2.1⟩
def tabOf (x : ByteArray × List (ByteArray × Int × Unit) × List Int × Unit) : Tab := ⟨x.1, x.2.1.map colOf, x.2.2.1⟩
/-- what a machine can hold of a table -/
def Fit (t : Tab) : Prop := t.n.size ≤ maxLen ∧ t.cols.length ≤ maxLen ∧ t.keys.length ≤ maxLen ∧ ∀ c ∈ t.cols, c.n.size ≤ maxLen
theorem rep_cols {W : World} {base : Nat} {v : Value} {l : List (ByteArray × Int × Unit)} (h : Rep W base ColSh [v] l) : ∃ oc, Cs W v oc (l.map colOf) ∧ l.length ≤ maxLen ∧ ∀ c ∈ l.map colOf, c.n.size ≤ maxLen := by
  rcases h with ⟨h1, h2⟩ | ⟨ob, off, sp, cap, h1, h2, h3, h4, h5⟩
  · simp only [List.cons.injEq, and_true] at h1
    subst h1
    have h2 : l = [] := h2
    subst h2
    exact ⟨0, Sl.nil _ _ _, by simp, by simp⟩
  · simp only [List.cons.injEq, and_true] at h1
    subst h1
    have hc : ∀ (i : Nat) (x : ByteArray × Int × Unit), l[i]? = some x → (colOf x).n.size ≤ maxLen ∧ ∀ r u, (colOf x).row[r]? = some u → W.cell? ⟨ob, off + (i * 2 + r), none⟩ = some u := by
      intro i x hx
      obtain ⟨cs', a1, a2, a3⟩ := h5 i x hx
      obtain ⟨c1, c2, rfl, ⟨rfl, b1⟩, c3, c4, rfl, ⟨rfl, b2⟩, rfl⟩ := a3
      exact ⟨b1, fun r u hu => a2 r u hu⟩
    refine ⟨ob, ⟨by rw [crows_length], .inr ⟨off, sp, cap, by rw [List.length_map]; rfl, by rw [List.length_map]; exact h2, h3, ?_, ?_⟩⟩, Nat.le_trans h2 h3, ?_⟩
    · rw [List.length_map]
      rcases h4 with h4 | ⟨h4, _⟩
      · refine .inl ?_
        have h4 : l.length * 2 = 0 := h4
        omega
      · exact .inr h4
    · intro j u hu
      have hj : j < (crows (l.map colOf)).length := (List.getElem?_eq_some_iff.1 hu).1
      rw [crows_length, List.length_map] at hj
      have hx : l[j / 2]? = some (l[j / 2]'(by omega)) := List.getElem?_eq_getElem (by omega)
      have ht := crows_at (l.map colOf) (j / 2) (colOf (l[j / 2]'(by omega))) (by rw [List.getElem?_map, hx]; rfl) (j % 2) (by omega)
      rw [show j / 2 * 2 + j % 2 = j by omega, hu] at ht
      have := (hc _ _ hx).2 (j % 2) u ht.symm
      rwa [show j / 2 * 2 + j % 2 = j by omega] at this
    · intro c hcm
      obtain ⟨x, hx, rfl⟩ := List.mem_map.1 hcm
      obtain ⟨i, hi⟩ := List.getElem?_of_mem hx
      exact (hc i x hi).1
theorem rep_keys {W : World} {base : Nat} {v : Value} {l : List Int} (h : Rep W base KeySh [v] l) : ∃ ok, Is W v ok l ∧ l.length ≤ maxLen := by
  rcases h with ⟨h1, h2⟩ | ⟨ob, off, sp, cap, h1, h2, h3, h4, h5⟩
  · simp only [List.cons.injEq, and_true] at h1
    subst h1
    have h2 : l = [] := h2
    subst h2
    exact ⟨0, Sl.nil _ _ _, by simp⟩
  · simp only [List.cons.injEq, and_true] at h1
    subst h1
    refine ⟨ob, ⟨by simp, .inr ⟨off, sp, cap, rfl, h2, h3, ?_, ?_⟩⟩, Nat.le_trans h2 h3⟩
    · rcases h4 with h4 | ⟨h4, _⟩
      · refine .inl ?_
        have h4 : l.length * 1 = 0 := h4
        omega
      · exact .inr h4
    · intro j u hu
      rw [List.getElem?_map, Option.map_eq_some_iff] at hu
      obtain ⟨k, hk, rfl⟩ := hu
      obtain ⟨cs', a1, a2, a3⟩ := h5 j k hk
      obtain ⟨rfl, _⟩ := a3
      have := a2 0 _ rfl
      have e : j * (Sh.int .i64).size + 0 = j := by show j * 1 + 0 = j; omega
      rwa [e] at this
/-- a table's three cells -/
theorem rep_tab {W : World} {base : Nat} {cs : List Value} {x : ByteArray × List (ByteArray × Int × Unit) × List Int × Unit} (h : Rep W base TabSh cs x) : ∃ r : Raw, cs = r.row ∧ TIs [] W r (tabOf x) ∧ Fit (tabOf x) := by
  obtain ⟨c1, c2, rfl, ⟨rfl, b1⟩, c3, c4, rfl, hc, c5, c6, rfl, hk, rfl⟩ := h
  obtain ⟨v1, rfl⟩ : ∃ v1, c3 = [v1] := by
    have := hc.length
    match c3, this with
    | [v1], _ => exact ⟨v1, rfl⟩
  obtain ⟨v2, rfl⟩ : ∃ v2, c5 = [v2] := by
    have := hk.length
    match c5, this with
    | [v2], _ => exact ⟨v2, rfl⟩
  obtain ⟨oc, h1, h2, h3⟩ := rep_cols hc
  obtain ⟨ok, h4, h5⟩ := rep_keys hk
  exact ⟨⟨x.1, v1, v2⟩, rfl, ⟨rfl, ⟨oc, by simp, h1⟩, ok, by simp, h4⟩, b1, by show (x.2.1.map colOf).length ≤ _; rw [List.length_map]; exact h2, h5, h3⟩
theorem rep_tabs {W : World} {base : Nat} {v : Value} {l : List (ByteArray × List (ByteArray × Int × Unit) × List Int × Unit)} (h : Rep W base TabsSh [v] l) : Ts W v (l.map tabOf) ∧ l.length ≤ maxLen ∧ ∀ t ∈ l.map tabOf, Fit t := by
  rcases h with ⟨h1, h2⟩ | ⟨ob, off, sp, cap, h1, h2, h3, h4, h5⟩
  · simp only [List.cons.injEq, and_true] at h1
    subst h1
    have h2 : l = [] := h2
    subst h2
    exact ⟨Ts.nil _, by simp, by simp⟩
  · simp only [List.cons.injEq, and_true] at h1
    subst h1
    have hex : ∀ i, i < l.length → ∃ r : Raw, ∀ x, l[i]? = some x → TIs [] W r (tabOf x) ∧ Fit (tabOf x) ∧ ∀ j u, r.row[j]? = some u → W.cell? ⟨ob, off + (i * 3 + j), none⟩ = some u := by
      intro i hi
      have hx : l[i]? = some l[i] := List.getElem?_eq_getElem hi
      obtain ⟨cs', a1, a2, a3⟩ := h5 i _ hx
      obtain ⟨r, rfl, b1, b2⟩ := rep_tab a3
      refine ⟨r, fun x hx' => ?_⟩
      rw [hx] at hx'
      obtain rfl := Option.some.inj hx'
      exact ⟨b1, b2, fun j u hu => a2 j u hu⟩
    obtain ⟨rs, hl, hrs⟩ := build_list (α := Raw) (Q := fun i r => ∀ x, l[i]? = some x → TIs [] W r (tabOf x) ∧ Fit (tabOf x) ∧ ∀ j u, r.row[j]? = some u → W.cell? ⟨ob, off + (i * 3 + j), none⟩ = some u) l.length hex
    have hrs : ∀ (i : Nat) r, rs[i]? = some r → ∀ x, l[i]? = some x → TIs [] W r (tabOf x) ∧ Fit (tabOf x) ∧ ∀ j u, r.row[j]? = some u → W.cell? ⟨ob, off + (i * 3 + j), none⟩ = some u := hrs
    refine ⟨⟨ob, rs, ⟨by rw [rrows_length], .inr ⟨off, sp, cap, by rw [hl]; rfl, by rw [hl]; exact h2, h3, ?_, ?_⟩⟩, by rw [hl, List.length_map], ?_⟩, Nat.le_trans h2 h3, ?_⟩
    · rw [hl]
      rcases h4 with h4 | ⟨h4, _⟩
      · refine .inl ?_
        have h4 : l.length * 3 = 0 := h4
        omega
      · exact .inr h4
    · intro j u hu
      have hj : j < (rrows rs).length := (List.getElem?_eq_some_iff.1 hu).1
      rw [rrows_length] at hj
      have hr : rs[j / 3]? = some (rs[j / 3]'(by omega)) := List.getElem?_eq_getElem (by omega)
      have hx : l[j / 3]? = some (l[j / 3]'(by omega)) := List.getElem?_eq_getElem (by omega)
      have ht := rrows_at rs (j / 3) _ hr (j % 3) (by omega)
      rw [show j / 3 * 3 + j % 3 = j by omega, hu] at ht
      have := (hrs _ _ hr _ hx).2.2 (j % 3) u ht.symm
      rwa [show j / 3 * 3 + j % 3 = j by omega] at this
    · intro k r t hr ht
      rw [List.getElem?_map, Option.map_eq_some_iff] at ht
      obtain ⟨x, hx, rfl⟩ := ht
      exact (hrs k r hr x hx).1
    · intro t ht
      obtain ⟨x, hx, rfl⟩ := List.mem_map.1 ht
      obtain ⟨i, hi⟩ := List.getElem?_of_mem hx
      have hil := (List.getElem?_eq_some_iff.1 hi).1
      exact (hrs i _ (List.getElem?_eq_getElem (by omega)) x hi).2.1
set_option maxRecDepth 100000 in
theorem read_tabs {H : Type} {enc : TypeId × Value → H} {W : World} {v : Value} {d : DataW H} {p : List MemPlace} {base : Nat} (h : DataW.Trod enc Tryz.prog W 0 (fun _ => true) true 22 v d p) (k : Value.okWide Tryz.prog W .any base 22 v) :
    ∃ l, Ts W v l ∧ l.length ≤ maxLen ∧ ∀ t ∈ l, Fit t := by
  obtain ⟨a0, len0, cap0, rfl⟩ := WideShapes.okWide_slice Tryz.underlying22 k
  obtain ⟨l, hl⟩ := trod_rep (s := TabsSh) 12 (by kernel_rfl) h
  have := rep_tabs (rep_one hl rfl)
  exact ⟨_, this.1, Nat.le_trans (Nat.le_of_eq (List.length_map ..)) this.2.1, this.2.2⟩
end Go.Proofs.YtjmfcjidhmaibaaGreatDoor
