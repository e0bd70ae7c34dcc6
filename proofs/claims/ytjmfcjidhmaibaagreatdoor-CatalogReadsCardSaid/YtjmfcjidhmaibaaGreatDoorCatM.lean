/-
  Plain mathematics of catalogs: columns, tables, which may be, where what has a name is, what is the same, lines. Nothing of the program's run.
-/
import Derived.Test.YtjmfcjidhmaibaaGreatDoorLexM
namespace Go.Proofs.YtjmfcjidhmaibaaGreatDoor
open Go.Lib
set_option linter.unusedVariables false

structure Col where
  n : ByteArray
  k : Int
deriving DecidableEq
structure Tab where
  n : ByteArray
  cols : List Col
  keys : List Int
deriving DecidableEq

/-- a kind's word -/
def kw (k : Int) : List UInt8 := if k = 1 then [98, 111, 111, 108] else if k = 2 then [105, 110, 116] else if k = 3 then [116, 101, 120, 116] else []
theorem kw_nil {k : Int} : kw k = [] ↔ ¬ (1 ≤ k ∧ k ≤ 3) := by
  unfold kw
  split
  · simp; omega
  · split
    · simp; omega
    · split
      · simp; omega
      · simp; omega

/-- the place of the first of that name; the length of the list, if there is none -/
def fnd (ns : List ByteArray) (s : ByteArray) : Nat := ns.findIdx (fun n => n = s)
theorem fnd_nil (s : ByteArray) : fnd [] s = 0 := rfl
theorem fnd_le (ns : List ByteArray) (s : ByteArray) : fnd ns s ≤ ns.length := List.findIdx_le_length
theorem fnd_here (ns : List ByteArray) (s : ByteArray) (k : Nat) (h1 : ns[k]? = some s) (h2 : ∀ x ∈ ns.take k, x ≠ s) : fnd ns s = k := by
  have hk : k < ns.length := (List.getElem?_eq_some_iff.1 h1).1
  unfold fnd
  rw [List.findIdx_eq hk]
  refine ⟨by simpa using (List.getElem?_eq_some_iff.1 h1).2, fun j hj => ?_⟩
  have : ns[j] ∈ ns.take k := by
    rw [List.mem_take_iff_getElem]
    exact ⟨j, by omega, rfl⟩
  simpa using h2 _ this
theorem fnd_none (ns : List ByteArray) (s : ByteArray) (h : ∀ x ∈ ns, x ≠ s) : fnd ns s = ns.length := by
  unfold fnd
  rw [List.findIdx_eq_length]
  intro x hx
  simpa using h x hx
theorem fnd_lt {ns : List ByteArray} {s : ByteArray} (h : fnd ns s < ns.length) : ns[fnd ns s]? = some s := by
  unfold fnd at *
  rw [List.getElem?_eq_getElem h]
  have := List.findIdx_getElem (w := h)
  simpa using this
theorem fnd_mem {ns : List ByteArray} {s : ByteArray} : fnd ns s < ns.length ↔ s ∈ ns := by
  constructor
  · intro h; exact List.mem_of_getElem? (fnd_lt h)
  · intro h
    unfold fnd
    rw [List.findIdx_lt_length]
    exact ⟨s, h, by simp⟩
theorem nodup_fnd (ns : List ByteArray) : (∀ (k : Nat) s, ns[k]? = some s → fnd ns s = k) ↔ ns.Nodup := by
  unfold List.Nodup
  rw [List.pairwise_iff_getElem]
  constructor
  · intro h i j hi hj hij e
    have h1 := h i ns[i] (List.getElem?_eq_getElem (by omega))
    have h2 := h j ns[j] (List.getElem?_eq_getElem (by omega))
    rw [e, h2] at h1
    omega
  · intro h k s hs
    refine fnd_here ns s k hs fun x hx e => ?_
    rw [List.mem_take_iff_getElem] at hx
    obtain ⟨i, hi, rfl⟩ := hx
    have hk := (List.getElem?_eq_some_iff.1 hs).1
    refine h i k (by omega) hk (by omega) ?_
    rw [e, (List.getElem?_eq_some_iff.1 hs).2]
/-- the program's test: of each the first of its name is itself, and it holds -/
def fitsL {α : Type} (f : α → ByteArray) (q : α → Bool) (l : List α) : Bool := decide ((l.map f).Nodup) && l.all q
theorem fitsL_no {α : Type} {f : α → ByteArray} {q : α → Bool} {l : List α} {k : Nat} {x : α} (hx : l[k]? = some x) (h : fnd (l.map f) (f x) ≠ k ∨ q x = false) : fitsL f q l = false := by
  unfold fitsL
  rcases h with h | h
  · have : ¬ (l.map f).Nodup := fun hn => h ((nodup_fnd _).2 hn k _ (by rw [List.getElem?_map, hx]; rfl))
    simp [this]
  · have : l.all q = false := List.all_eq_false.2 ⟨x, List.mem_of_getElem? hx, by simp [h]⟩
    rw [this, Bool.and_false]
theorem fitsL_yes {α : Type} {f : α → ByteArray} {q : α → Bool} {l : List α} (h : ∀ (k : Nat) x, l[k]? = some x → fnd (l.map f) (f x) = k ∧ q x = true) : fitsL f q l = true := by
  unfold fitsL
  have h1 : (l.map f).Nodup := (nodup_fnd _).1 fun k s hs => by
    rw [List.getElem?_map, Option.map_eq_some_iff] at hs
    obtain ⟨x, hx, rfl⟩ := hs
    exact (h k x hx).1
  have h2 : l.all q = true := List.all_eq_true.2 fun x hx => by
    obtain ⟨k, hk⟩ := List.getElem?_of_mem hx
    exact (h k x hk).2
  simp [h1, h2]
def isCol (c : Col) : Bool := isName (L c.n) && decide (kw c.k ≠ [])
/-- places of n columns, rising, from least on -/
def areKeys (n : Int) : Int → List Int → Bool
  | _, [] => true
  | least, k :: r => decide (least ≤ k) && decide (k < n) && areKeys n (k + 1) r
def isTab (t : Tab) : Bool := isName (L t.n) && (decide (1 ≤ t.cols.length) && decide (t.cols.length ≤ 4) && fitsL Col.n isCol t.cols) && areKeys t.cols.length 0 t.keys
def isCat (c : List Tab) : Bool := decide (c.length ≤ 4) && fitsL Tab.n isTab c
end Go.Proofs.YtjmfcjidhmaibaaGreatDoor
