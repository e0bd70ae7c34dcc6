/-
  Plain mathematics of tokens: classes, words, names, numbers, signs, texts between quotes; a text gone through. Nothing of the program's run.
-/
import Derived.Lib.Case
import Derived.Lib.Strings
import Derived.Lib.Replace
import Derived.Lib.ItoaMem
import Derived.Lib.ParseIntBTie
import Derived.Lib.Join
namespace Go.Proofs.YtjmfcjidhmaibaaGreatDoor
open Go.Lib
set_option linter.unusedVariables false

def B (l : List UInt8) : ByteArray := ⟨l.toArray⟩
def L (s : ByteArray) : List UInt8 := s.data.toList
theorem L_B (l : List UInt8) : L (B l) = l := rfl
theorem B_L (s : ByteArray) : B (L s) = s := by cases s; rfl
theorem size_L (s : ByteArray) : s.size = (L s).length := rfl
theorem B_inj {a b : List UInt8} : B a = B b ↔ a = b := ⟨fun h => by have := congrArg L h; rwa [L_B, L_B] at this, fun h => by rw [h]⟩
theorem L_inj {a b : ByteArray} : L a = L b ↔ a = b := ⟨fun h => by rw [← B_L a, h, B_L], fun h => by rw [h]⟩
theorem L_extract (s : ByteArray) (i j : Nat) : L (s.extract i j) = ((L s).drop i).take (j - i) := Lib.extract_data s i j
theorem L_append (s t : ByteArray) : L (s ++ t) = L s ++ L t := by simp [L]

/-! ## classes -/
def spans : List UInt8 → UInt8 → Bool
  | a :: b :: r, x => (a.toNat ≤ x.toNat && x.toNat ≤ b.toNat) || spans r x
  | _, _ => false
def spansI : List UInt8 → Int → Bool
  | a :: b :: r, x => (decide ((a.toNat : Int) ≤ x) && decide (x ≤ (b.toNat : Int))) || spansI r x
  | _, _ => false
theorem spansI_byte : ∀ (l : List UInt8) (c : UInt8), spansI l (c.toNat : Int) = spans l c
  | [], c => rfl
  | [_], c => rfl
  | a :: b :: r, c => by simp only [spansI, spans, spansI_byte r c]; congr 2 <;> simp
theorem spansI_far : ∀ (l : List UInt8) (x : Int), (∀ b ∈ l, (b.toNat : Int) < x) → spansI l x = false
  | [], x, _ => rfl
  | [_], x, _ => rfl
  | a :: b :: r, x, h => by
    rw [spansI, spansI_far r x (fun y hy => h y (by simp [hy]))]
    have := h b (by simp)
    simp; omega
abbrev cBlank : List UInt8 := [32, 32, 9, 10, 13, 13]
abbrev cAlnum : List UInt8 := [97, 122, 65, 90, 48, 57, 95, 95]
abbrev cSmall : List UInt8 := [97, 122]
abbrev cName : List UInt8 := [97, 122, 48, 57, 95, 95]
abbrev cPlain : List UInt8 := [32, 126]
def ahead (c l : List UInt8) : Nat := (l.takeWhile (spans c)).length
theorem ahead_le (c l : List UInt8) : ahead c l ≤ l.length := (List.takeWhile_sublist _).length_le
theorem ahead_take (c l : List UInt8) : l.take (ahead c l) = l.takeWhile (spans c) := by
  unfold ahead
  induction l with
  | nil => rfl
  | cons x r ih =>
    rw [List.takeWhile_cons]
    split
    · simp [ih]
    · rfl
theorem ahead_all (c l : List UInt8) : (ahead c l == l.length) = l.all (spans c) := by
  unfold ahead
  induction l with
  | nil => rfl
  | cons x r ih =>
    rw [List.takeWhile_cons]
    cases h : spans c x
    · simp [h]
    · simp [h, ← ih]
theorem ahead_append (c l : List UInt8) (x : UInt8) (m : List UInt8) (hx : spans c x = false) : ahead c (l ++ x :: m) = ahead c l := by
  unfold ahead
  induction l with
  | nil => simp [hx]
  | cons y r ih =>
    rw [List.cons_append, List.takeWhile_cons, List.takeWhile_cons]
    split <;> simp [ih]

/-! ## words, names, texts, signs -/
def wordsL : List (List UInt8) := [[83, 69, 76, 69, 67, 84], [68, 73, 83, 84, 73, 78, 67, 84], [70, 82, 79, 77], [76, 69, 70, 84], [74, 79, 73, 78], [79, 78], [87, 72, 69, 82, 69], [71, 82, 79, 85, 80], [66, 89], [72, 65, 86, 73, 78, 71], [85, 78, 73, 79, 78], [65, 76, 76], [79, 82, 68, 69, 82], [76, 73, 77, 73, 84], [65, 83, 67], [68, 69, 83, 67], [65, 83], [65, 78, 68], [79, 82], [78, 79, 84], [73, 83], [78, 85, 76, 76], [84, 82, 85, 69], [70, 65, 76, 83, 69], [67, 79, 85, 78, 84], [83, 85, 77], [77, 73, 78], [77, 65, 88]]
def signsL : List (List UInt8) := [[60, 62], [60, 61], [62, 61], [60], [62], [61], [40], [41], [44], [46], [42], [43], [45], [47]]
def isWord (l : List UInt8) : Bool := wordsL.contains l
def isName (l : List UInt8) : Bool := !l.isEmpty && decide (l.length ≤ 16) && (l.take 1).all (spans cSmall) && l.all (spans cName) && !isWord (toUpperA l)
def isText (l : List UInt8) : Bool := decide (l.length ≤ 40) && l.all (spans cPlain)
def signOf (l : List UInt8) : List UInt8 := (signsL.find? (fun g => hasPrefix l g)).getD []

structure Tok where
  k : Int
  a : Int
  s : ByteArray
  n : Int
def Tok.zero : Tok := ⟨0, 0, B [], 0⟩
def Tok.at (t : Tok) (p : Int) : Tok := { t with a := p }
/-- what is asked of all but the place -/
def isTok (k : Int) (s : List UInt8) (n : Int) : Bool :=
  if k = 3 then s.isEmpty && decide (n ≤ 9223372036854775807)
  else if n ≠ 0 then false
  else if k = 1 then isWord s
  else if k = 2 then isName s
  else if k = 4 then isText s
  else if k = 5 then !s.isEmpty && (signOf s == s)
  else false
def Tok.right (t : Tok) : Bool := decide (0 ≤ t.a) && isTok t.k (L t.s) t.n

/-! ## a number -/
def numOf (l : List UInt8) : Option Int := match parseIntB 64 l with
  | .ok v => if itoa v = l then some v else none
  | _ => none

/-! ## what a text begins with -/
def together (l : List UInt8) : Tok × Nat :=
  if isName l then (⟨2, 0, B l, 0⟩, l.length)
  else if isWord (toUpperA l) then (⟨1, 0, B (toUpperA l), 0⟩, l.length)
  else match numOf l with
    | some v => (⟨3, 0, B [], v⟩, l.length)
    | none => (Tok.zero, 0)
/-- behind a first quote: the text, and how many bytes it takes, both quotes counted -/
def qscan : List UInt8 → List UInt8 → Nat → Option (List UInt8 × Nat)
  | [], acc, k => none
  | c :: r, acc, k =>
    if c ≠ 39 then qscan r (acc ++ [c]) (k + 1)
    else match r with
      | [] => some (acc, k + 1)
      | d :: r' => if d = 39 then qscan r' (acc ++ [39]) (k + 2) else some (acc, k + 1)
theorem qscan_nil (acc : List UInt8) (k : Nat) : qscan [] acc k = none := by rw [qscan.eq_def]
theorem qscan_plain {c : UInt8} (r acc : List UInt8) (k : Nat) (h : c ≠ 39) : qscan (c :: r) acc k = qscan r (acc ++ [c]) (k + 1) := by rw [qscan.eq_def]; simp [h]
theorem qscan_end (acc : List UInt8) (k : Nat) : qscan [39] acc k = some (acc, k + 1) := by rw [qscan.eq_def]; simp
theorem qscan_two (r acc : List UInt8) (k : Nat) : qscan (39 :: 39 :: r) acc k = qscan r (acc ++ [39]) (k + 2) := by rw [qscan.eq_def]; simp
theorem qscan_stop {d : UInt8} (r acc : List UInt8) (k : Nat) (h : d ≠ 39) : qscan (39 :: d :: r) acc k = some (acc, k + 1) := by rw [qscan.eq_def]; simp [h]
def ended (t : List UInt8) (k : Nat) : Tok × Nat := if isText t then (⟨4, 0, B t, 0⟩, k) else (Tok.zero, 0)
def quoted (l : List UInt8) : Tok × Nat := match qscan (l.drop 1) [] 1 with
  | none => (Tok.zero, 0)
  | some (t, k) => ended t k
def first (l : List UInt8) : Tok × Nat :=
  if 0 < ahead cAlnum l then together (l.take (ahead cAlnum l))
  else if hasPrefix l [39] then quoted l
  else (⟨5, 0, B (signOf l), 0⟩, (signOf l).length)

/-! ## a text gone through -/
/-- from the place p on, of which the next 'skip' bytes are told already: the tokens, and what is wrong -/
def scan : Nat → Nat → List UInt8 → List Tok × Option Tok
  | p, skip, [] => ([], none)
  | p, skip + 1, c :: r => scan (p + 1) skip r
  | p, 0, c :: r =>
    if spans cBlank c then scan (p + 1) 0 r
    else
      if (first (c :: r)).2 = 0 then ([], some ((first (c :: r)).1.at p))
      else ((first (c :: r)).1.at p :: (scan (p + 1) ((first (c :: r)).2 - 1) r).1, (scan (p + 1) ((first (c :: r)).2 - 1) r).2)
/-- what Tokens tells: the tokens, the place, the error -/
def tokensL (l : List UInt8) : List Tok := if 600 < l.length then [] else match (scan 0 0 l).2 with
  | some _ => []
  | none => (scan 0 0 l).1
def tokensP (l : List UInt8) : Int := if 600 < l.length then 0 else match (scan 0 0 l).2 with
  | some t => t.a
  | none => 0
def tokensE (l : List UInt8) : Int := if 600 < l.length then 3 else match (scan 0 0 l).2 with
  | some _ => 170
  | none => 0

/-! ## laid -/
def esc (l : List UInt8) : List UInt8 := l.flatMap fun c => if c = 39 then [39, 39] else [c]
def written (k : Int) (s : List UInt8) (n : Int) : List UInt8 :=
  if k = 3 then decDigits n.toNat
  else if k = 4 then [39] ++ esc s ++ [39]
  else s
def Tok.w (t : Tok) : List UInt8 := written t.k (L t.s) t.n
def printL (l : List Tok) : List UInt8 := join (l.map Tok.w) [32]
def sameTok (x y : Tok) : Bool := decide (x.k = y.k) && decide (x.s = y.s) && decide (x.n = y.n)
def sameL : List Tok → List Tok → Bool
  | [], [] => true
  | x :: l, y :: m => sameTok x y && sameL l m
  | _, _ => false

theorem replaceK_esc : ∀ (l : List UInt8) (k : Nat), count l [39] = k → replaceK [39] [39, 39] k l = esc l
  | [], k, h => by cases k <;> simp [replaceK, esc, index]
  | c :: r, k, h => by
    by_cases hc : c = 39
    · subst hc
      rw [count_cons_eq] at h
      obtain ⟨k, rfl⟩ : ∃ j, k = j + 1 := ⟨count r [39], by omega⟩
      have hi : index (39 :: r) [39] = (0 : Nat) := by simp [index, List.isPrefixOf]
      rw [replaceK_hit _ _ _ _ 0 hi]
      simp only [List.take_zero, List.nil_append, List.length_cons, List.length_nil, Nat.zero_add, List.drop_succ_cons, List.drop_zero]
      rw [replaceK_esc r k (by omega)]
      simp [esc]
    · rw [count_cons_ne _ _ _ hc] at h
      have ih := replaceK_esc r k h
      have he : esc (c :: r) = c :: esc r := by simp [esc, hc]
      rw [he, ← ih]
      cases k with
      | zero => rfl
      | succ k =>
        obtain ⟨i, hi⟩ := index_of_count (s := r) (old := [39]) (by omega)
        have hi' : index (c :: r) [39] = ((i + 1 : Nat) : Int) := by
          have : ¬ ([39] : List UInt8).isPrefixOf (c :: r) = true := by simp [List.isPrefixOf]; exact fun e => hc e.symm
          rw [index, if_neg this, hi]
          have : ((i : Int) == -1) = false := by simp
          rw [this]; simp
        rw [replaceK_hit _ _ _ _ _ hi', replaceK_hit _ _ _ _ _ hi]
        simp
theorem replaceAll_esc (l : List UInt8) : replaceAll l [39] [39, 39] = esc l := by
  unfold replaceAll replace
  rw [if_neg (by decide)]
  exact replaceK_esc l _ (by unfold replaceNum; rw [if_pos (by omega)])

end Go.Proofs.YtjmfcjidhmaibaaGreatDoor
