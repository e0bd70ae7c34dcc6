/-
  Nets, plainly: which may be, and what comes of them by what is done. (Plain mathematics.)
-/
import Derived.Lib.Hide
namespace Go.Proofs.Ytpdfmeaemlgniaa
set_option linter.unusedVariables false

/-- a parcel -/
structure Par where
  num : Nat
  fr : Int
  to : Int
  bs : List UInt8
  sp : Bool
deriving DecidableEq
/-- a net -/
structure Nt where
  s : Nat
  ps : List Par
deriving DecidableEq
def zPar : Par := ⟨0, 0, 0, [], false⟩
def zNt : Nt := ⟨0, []⟩

def isNode (k : Int) : Bool := decide (0 ≤ k) && decide (k ≤ 8)
def isWay (f t : Int) : Bool := isNode f && isNode t && (f != t)
def parOK (p : Par) : Bool := isWay p.fr p.to && decide (p.bs.length ≤ 60000) && (decide (0 < p.bs.length) || !p.sp)
def chk (s : Nat) : Nat → List Par → Bool
  | _, [] => true
  | b, p :: l => decide (b < p.num) && decide (p.num ≤ s) && parOK p && chk s p.num l
def right (n : Nt) : Bool := decide (n.s ≤ 1099511627776) && decide (n.ps.length ≤ 20000) && chk n.s 0 n.ps

/-- what is answered: the net, a number, a parcel, how many are gone, the error -/
structure Told where
  n : Nt := zNt
  num : Nat := 0
  p : Par := zPar
  gone : Nat := 0
  e : Int := 0
deriving DecidableEq

def fnd (l : List Par) (k : Nat) : Nat := l.findIdx (fun p => p.num == k)
def addM (n : Nt) (p : Par) : Told :=
  if n.ps.length = 20000 ∨ n.s = 1099511627776 then { e := 6 } else { n := ⟨n.s + 1, n.ps ++ [{ p with num := n.s + 1 }]⟩, num := n.s + 1 }
def sendM (n : Nt) (f t : Int) (b : List UInt8) : Told :=
  if isWay f t = false then { e := 2 } else if 60000 < b.length then { e := 3 } else addM n ⟨0, f, t, b, false⟩
def atM (n : Nt) (k : Nat) (g : Nat → Par → Told) : Told :=
  match n.ps[fnd n.ps k]? with
  | none => { e := 4 }
  | some p => g (fnd n.ps k) p
def comeM (n : Nt) (k : Nat) : Told := atM n k fun i p => { n := ⟨n.s, n.ps.eraseIdx i⟩, p := p }
def keepM (f t : Int) (p : Par) : Bool := (p.fr != f) || (p.to != t)
def dropM (n : Nt) (f t : Int) : Told :=
  if isWay f t = false then { e := 2 } else { n := ⟨n.s, n.ps.filter (keepM f t)⟩, gone := n.ps.length - (n.ps.filter (keepM f t)).length }
def twinM (n : Nt) (k : Nat) : Told := atM n k fun _ p => addM n p
def spoilM (n : Nt) (k : Nat) (at_ : Int) (y : UInt8) : Told := atM n k fun i p =>
  if p.sp = true then { e := 5 } else if at_ < 0 ∨ (p.bs.length : Int) ≤ at_ ∨ y = 0 then { e := 2 } else
    { n := ⟨n.s, n.ps.set i { p with bs := p.bs.modify at_.toNat (· ^^^ y), sp := true }⟩ }
/-- of a net that may not be -/
def ofM (n : Nt) (t : Told) : Told := if right n = true then t else { e := 340 }
def forM (n : Nt) (node : Int) : List Nat := if right n = true then (n.ps.filter fun p => p.to == node).map Par.num else []

theorem chk_num {s : Nat} : ∀ {b : Nat} {l : List Par}, chk s b l = true → ∀ p ∈ l, b < p.num ∧ p.num ≤ s ∧ parOK p = true
  | b, [], h, p, hp => by simp at hp
  | b, q :: l, h, p, hp => by
    simp only [chk, Bool.and_eq_true, decide_eq_true_eq] at h
    rcases List.mem_cons.1 hp with rfl | hp
    · exact ⟨h.1.1.1, h.1.1.2, h.1.2⟩
    · have := chk_num h.2 p hp
      exact ⟨by omega, this.2⟩
theorem chk_sorted {s : Nat} : ∀ {b : Nat} {l : List Par}, chk s b l = true → l.Pairwise (fun p q => p.num < q.num)
  | b, [], h => List.Pairwise.nil
  | b, q :: l, h => by
    simp only [chk, Bool.and_eq_true, decide_eq_true_eq] at h
    exact List.pairwise_cons.2 ⟨fun p hp => (chk_num h.2 p hp).1, chk_sorted h.2⟩
theorem right_len {n : Nt} (h : right n = true) : n.s ≤ 1099511627776 ∧ n.ps.length ≤ 20000 ∧ chk n.s 0 n.ps = true := by
  simpa [right, Bool.and_eq_true, and_assoc] using h
theorem parOK_len {p : Par} (h : parOK p = true) : p.bs.length ≤ 60000 := by
  simp only [parOK, Bool.and_eq_true, decide_eq_true_eq] at h; exact h.1.2
/-- of rising numbers: from a place on they are not below, ahead of it they are -/
theorem fnd_of {l : List Par} (hs : l.Pairwise (fun p q => p.num < q.num)) (k i : Nat) (hi : i ≤ l.length) (h1 : ∀ (j : Nat) p, j < i → l[j]? = some p → p.num < k) (h2 : ∀ (j : Nat) p, i ≤ j → l[j]? = some p → k ≤ p.num) :
    (∃ p, l[i]? = some p ∧ p.num = k ∧ fnd l k = i) ∨ ((∀ p, l[i]? = some p → p.num ≠ k) ∧ fnd l k = l.length) := by
  by_cases hx : ∃ p, l[i]? = some p ∧ p.num = k
  · obtain ⟨p, hp, hk⟩ := hx
    refine .inl ⟨p, hp, hk, ?_⟩
    unfold fnd
    have hil := (List.getElem?_eq_some_iff.1 hp).1
    rw [List.findIdx_eq hil]
    refine ⟨by have := (List.getElem?_eq_some_iff.1 hp).2; rw [this]; simpa using hk, fun j hj => ?_⟩
    have hjl : j < l.length := by omega
    have := h1 j l[j] hj (List.getElem?_eq_getElem hjl)
    simp; omega
  · refine .inr ⟨fun p hp hk => hx ⟨p, hp, hk⟩, ?_⟩
    unfold fnd
    rw [List.findIdx_eq_length]
    intro p hp
    obtain ⟨j, hj⟩ := List.getElem?_of_mem hp
    simp only [beq_eq_false_iff_ne]
    intro hk
    by_cases hji : j < i
    · have := h1 j p hji hj; omega
    · have hil : i < l.length := by have := (List.getElem?_eq_some_iff.1 hj).1; omega
      have hi' := h2 i l[i] (Nat.le_refl _) (List.getElem?_eq_getElem hil)
      by_cases e : j = i
      · subst e; exact hx ⟨p, hj, hk⟩
      · have hjl := (List.getElem?_eq_some_iff.1 hj).1
        have := List.pairwise_iff_getElem.1 hs i j hil hjl (by omega)
        have e2 := (List.getElem?_eq_some_iff.1 hj).2
        rw [e2] at this
        omega
end Go.Proofs.Ytpdfmeaemlgniaa
