
/-
  What a value of plain data stands for: shapes (integers, bools, strings, slices, structs), the Lean data of a shape, and 'Rep': the cells read as that data, in blocks below B.
-/
import Derived.Test.YtpdfmeaemlgniaaLib
import Derived.ProofKit
import Derived.OpenShut
namespace Go.Proofs.Ytpdfmeaemlgniaa
open Go.RowKit
set_option linter.unusedVariables false

inductive Sh where
  | int (k : IntKind)
  | bool
  | str
  | slice (s : Sh)
  | unit
  | pair (a b : Sh)

def Sh.size : Sh → Nat
  | .int _ | .bool | .str | .slice _ => 1
  | .unit => 0
  | .pair a b => a.size + b.size

def Sh.Val : Sh → Type
  | .int _ => Int
  | .bool => Bool
  | .str => ByteArray
  | .slice s => List s.Val
  | .unit => Unit
  | .pair a b => a.Val × b.Val

/-- the i-th of a list -/
def nth {α : Type} (l : List α) (i : Nat) : Option α := l[i]?

/-- the cells cs, in the world w, stand for x; what they lead to lies in blocks below B -/
def Rep (w : World) (B : Nat) : (s : Sh) → List Value → s.Val → Prop
  | .int k, cs, n => cs = [.int k n] ∧ (Lit.int k n).wf = true
  | .bool, cs, b => cs = [.bool b]
  | .str, cs, s => cs = [.string s] ∧ s.size ≤ maxLen
  | .slice s, cs, l => (cs = [.slice none 0 0] ∧ l = []) ∨
      ∃ ob off sp cap, cs = [.slice (some ⟨ob, off, sp⟩) (List.length l) cap] ∧ List.length l ≤ cap ∧ cap ≤ maxLen ∧ (List.length l * s.size = 0 ∨ (sp = none ∧ ob < B)) ∧
        ∀ (i : Nat) (x : s.Val), nth (α := s.Val) l i = some x → ∃ cs', List.length cs' = s.size ∧ (∀ j u, cs'[j]? = some u → w.cell? ⟨ob, off + (i * s.size + j), none⟩ = some u) ∧ Rep w B s cs' x
  | .unit, cs, _ => cs = []
  | .pair a b, cs, x => ∃ c1 c2, cs = c1 ++ c2 ∧ Rep w B a c1 x.1 ∧ Rep w B b c2 x.2

theorem Rep.length {w : World} {B : Nat} : ∀ {s : Sh} {cs : List Value} {x : s.Val}, Rep w B s cs x → cs.length = s.size
  | .int k, cs, n, h => by rw [h.1]; rfl
  | .bool, cs, b, h => by rw [show cs = _ from h]; rfl
  | .str, cs, s, h => by rw [h.1]; rfl
  | .slice s, cs, l, h => by
    rcases h with ⟨h, _⟩ | ⟨ob, off, sp, cap, h, _⟩ <;> rw [h] <;> rfl
  | .unit, cs, _, h => by rw [show cs = _ from h]; rfl
  | .pair a b, cs, x, h => by
    obtain ⟨c1, c2, rfl, h1, h2⟩ := h
    rw [List.length_append, h1.length, h2.length]; rfl

theorem Rep.ext {X : List Nat} {w w' : World} {B B' : Nat} (he : Ext X w w') (hX : ∀ k ∈ X, B ≤ k) (hB : B ≤ B') : ∀ {s : Sh} {cs : List Value} {x : s.Val}, Rep w B s cs x → Rep w' B' s cs x
  | .int k, cs, n, h => h
  | .bool, cs, b, h => h
  | .str, cs, s, h => h
  | .slice s, cs, l, h => by
    rcases h with h | ⟨ob, off, sp, cap, h1, h2, h3, h4, h5⟩
    · exact .inl h
    · refine .inr ⟨ob, off, sp, cap, h1, h2, h3, ?_, ?_⟩
      · rcases h4 with h4 | ⟨h4, h6⟩
        · exact .inl h4
        · exact .inr ⟨h4, by omega⟩
      · intro i x hx
        obtain ⟨cs', hl, hc, hr⟩ := h5 i x hx
        refine ⟨cs', hl, fun j u hu => he.read (hc j u hu) ?_, hr.ext he hX hB⟩
        intro hm
        have := hX ob hm
        rcases h4 with h4 | ⟨h4, h6⟩
        · have hj : j < s.size := by rw [← hl]; exact (List.getElem?_eq_some_iff.1 hu).1
          have hi : i < List.length l := (List.getElem?_eq_some_iff.1 hx).1
          rcases Nat.mul_eq_zero.1 h4 with h | h <;> omega
        · omega
  | .unit, cs, _, h => h
  | .pair a b, cs, x, h => by
    obtain ⟨c1, c2, e, h1, h2⟩ := h
    exact ⟨c1, c2, e, h1.ext he hX hB, h2.ext he hX hB⟩

/-- what is old stays what it stands for -/
theorem Rep.keep {w w' : World} {B : Nat} {s : Sh} {cs : List Value} {x : s.Val} (h : Rep w B s cs x) (he : Ext [] w w') : Rep w' B s cs x := h.ext he (by simp) (Nat.le_refl _)

mutual
/-- the type t of the program P has the shape s -/
def fits (P : Program) : Nat → TypeId → Sh → Bool
  | 0, _, _ => false
  | n + 1, t, s =>
    match P.underlying t, s with
    | some (.int k), .int k' => k == k'
    | some .bool, .bool => true
    | some .string, .str => true
    | some (.slice e), .slice s => P.cellsOf e == s.size && fits P n e s
    | some (.struct fs), s => P.cellsOf t == s.size && fitsAll P n fs.toList 0 s
    | _, _ => false
def fitsAll (P : Program) : Nat → List Field → Nat → Sh → Bool
  | 0, _, _, _ => false
  | n + 1, [], _, .unit => true
  | n + 1, f :: fs, off, .pair a b => f.offset == off && P.cellsOf f.type == a.size && fits P n f.type a && fitsAll P n fs (off + a.size) b
  | _, _, _, _ => false
end

theorem build_list {α : Type} {Q : Nat → α → Prop} : ∀ n, (∀ i, i < n → ∃ v, Q i v) → ∃ l : List α, l.length = n ∧ ∀ i x, nth l i = some x → Q i x
  | 0, _ => ⟨[], rfl, fun i x h => by simp [nth] at h⟩
  | n + 1, h => by
    obtain ⟨l, hl, hq⟩ := build_list n fun i hi => h i (by omega)
    obtain ⟨v, hv⟩ := h n (by omega)
    refine ⟨l ++ [v], by simp [hl], fun i x hx => ?_⟩
    unfold nth at hx hq
    by_cases hi : i < n
    · exact hq i x (by rwa [List.getElem?_append_left (by omega)] at hx)
    · by_cases hn : i = n
      · subst hn
        rw [List.getElem?_append_right (by omega), hl] at hx
        simp at hx
        rwa [← hx]
      · rw [List.getElem?_eq_none (by simp; omega)] at hx
        cases hx

section
variable {H : Type} {enc : TypeId × Value → H} {P : Program} {w : World} {base : Nat} {spare : Nat → Bool} {held : Bool} {B : Nat}

theorem rep_all (hB : w.heap.size ≤ B) : ∀ (n : Nat),
    (∀ (m : Nat) (t : TypeId) (s : Sh) (cs : List Value) (x : DataW H × List MemPlace), fits P n t s = true → DataW.trod enc P w base spare held m t cs = some x → ∃ v, Rep w B s cs v) ∧
    (∀ (m : Nat) (fs : List Field) (off : Nat) (s : Sh) (cs : List Value), fitsAll P n fs off s = true → (∀ (i : Nat) (f : Field), fs[i]? = some f → ∃ x, DataW.trod enc P w base spare held m f.type ((cs.drop f.offset).take (P.cellsOf f.type)) = some x) →
      ∃ v, Rep w B s ((cs.drop off).take s.size) v)
  | 0 => ⟨fun m t s cs x h => by simp [fits] at h, fun m fs off s cs h => by simp [fitsAll] at h⟩
  | n + 1 => by
    obtain ⟨ih1, ih2⟩ := rep_all hB n
    constructor
    · intro m t s cs x h hx
      unfold fits at h
      split at h
      · rename_i k k' hu
        simp at h; subst h
        obtain ⟨z, rfl, _, hw⟩ := DataW.trod_int hu hx
        exact ⟨z, rfl, hw⟩
      · rename_i hu
        obtain ⟨b, rfl, _⟩ := DataW.trod_bool hu hx
        exact ⟨b, rfl⟩
      · rename_i hu
        obtain ⟨z, rfl, _, hw⟩ := DataW.trod_string hu hx
        exact ⟨z, rfl, hw⟩
      · rename_i e s' hu
        simp only [Bool.and_eq_true, beq_iff_eq] at h
        obtain ⟨hc, hf⟩ := h
        rcases DataW.trod_slice hu hx with ⟨rfl, _⟩ | ⟨a, len, cap, elems, rest, q, _, rfl, _, _, hl, hm, hel, he, _⟩
        · exact ⟨([] : List s'.Val), .inl ⟨rfl, rfl⟩⟩
        · have hcell : ∀ i, i < len → ∃ cs', cs'.length = s'.size ∧ (∀ j, j < s'.size → w.cell? ((a.add (i * s'.size)).add j) = cs'[j]?) ∧ ∃ v, Rep w B s' cs' v := by
            intro i hi
            have h1 := he i hi
            rw [List.getElem?_eq_getElem (by omega), Option.bind_eq_some_iff] at h1
            obtain ⟨cs', h2, h3⟩ := h1
            rw [hc] at h2
            obtain ⟨_, h5, h6⟩ := World.cells?_some h2
            exact ⟨cs', h5, h6, ih1 _ _ _ _ _ hf h3⟩
          obtain ⟨b, off, sp⟩ := a
          have hsp : len * s'.size = 0 ∨ (sp = none ∧ b < B) := by
            by_cases h0 : len * s'.size = 0
            · exact .inl h0
            · right
              have hl0 : 0 < len := by rcases Nat.eq_zero_or_pos len with h | h; simp [h] at h0; exact h
              have hs0 : 0 < s'.size := by rcases Nat.eq_zero_or_pos s'.size with h | h; simp [h] at h0; exact h
              obtain ⟨cs', h5, h6, _⟩ := hcell 0 hl0
              have h7 := h6 0 hs0
              rw [List.getElem?_eq_getElem (by omega)] at h7
              simp only [Nat.zero_mul, Addr.add, if_true] at h7
              have h8 := World.cell?_spot h7
              have h9 := World.block_lt_of_cell? _ _ h7
              exact ⟨h8, by dsimp only at h9; omega⟩
          obtain ⟨l, hl1, hl2⟩ := build_list (α := s'.Val) (Q := fun i v => ∃ cs', cs'.length = s'.size ∧ (∀ j, j < s'.size → w.cell? (((⟨b, off, sp⟩ : Addr).add (i * s'.size)).add j) = cs'[j]?) ∧ Rep w B s' cs' v) len
            (fun i hi => by obtain ⟨cs', a1, a2, v, a3⟩ := hcell i hi; exact ⟨v, cs', a1, a2, a3⟩)
          refine ⟨(l : List s'.Val), .inr ⟨b, off, sp, cap, by rw [hl1], by rw [hl1]; exact hl, hm, by rw [hl1]; exact hsp, fun i x hx => ?_⟩⟩
          obtain ⟨cs', a1, a2, a3⟩ := hl2 i x hx
          refine ⟨cs', a1, fun j u hu => ?_, a3⟩
          have hj : j < s'.size := by rw [← a1]; exact (List.getElem?_eq_some_iff.1 hu).1
          have hi : i < len := by unfold nth at hx; rw [← hl1]; exact (List.getElem?_eq_some_iff.1 hx).1
          rcases hsp with h0 | ⟨rfl, _⟩
          · rcases Nat.mul_eq_zero.1 h0 with h | h <;> omega
          · have := (a2 j hj).trans hu
            rwa [add_off, add_off, Nat.add_assoc] at this
      · rename_i s' _ _ fs hu
        simp only [Bool.and_eq_true, beq_iff_eq] at h
        obtain ⟨hc, hf⟩ := h
        obtain ⟨xs, q, _, _, hlen, hxs, hfs⟩ := DataW.trod_struct hu hx
        have := ih2 q fs.toList 0 s' cs hf (fun i f hif => by
          have h1 := hfs i f (by simpa using hif)
          have hi : i < xs.length := by
            have := (List.getElem?_eq_some_iff.1 hif).1
            rw [hxs]; simpa using this
          exact ⟨xs[i], by rw [h1, List.getElem?_eq_getElem hi]⟩)
        rw [List.drop_zero, ← hc, ← hlen, List.take_of_length_le (Nat.le_refl _)] at this
        exact this
      · cases h
    · intro m fs off s cs h hx
      unfold fitsAll at h
      split at h
      · cases h
      · exact ⟨(), by simp [Rep, Sh.size]⟩
      · rename_i off' _ _ _ _ n' f fs' a b heq
        have heq' : n = n' := by omega
        subst heq'
        simp only [Bool.and_eq_true, beq_iff_eq] at h
        obtain ⟨⟨⟨h1, h2⟩, h3⟩, h4⟩ := h
        obtain ⟨x, hx0⟩ := hx 0 f rfl
        obtain ⟨v1, hv1⟩ := ih1 _ _ _ _ _ h3 hx0
        obtain ⟨v2, hv2⟩ := ih2 m fs' (off' + a.size) b cs h4 (fun i g hg => hx (i + 1) g (by simpa using hg))
        refine ⟨(v1, v2), _, _, ?_, hv1, hv2⟩
        rw [h1, h2, Sh.size, List.take_add, List.drop_drop]
      · cases h
end

/-- what an argument reads as -/
theorem trod_rep {H : Type} {enc : TypeId × Value → H} {P : Program} {w : World} {base : Nat} {spare : Nat → Bool} {held : Bool} {t : TypeId} {s : Sh} {v : Value} {d : DataW H} {ps : List MemPlace}
    (n : Nat) (hf : fits P n t s = true) (h : DataW.Trod enc P w base spare held t v d ps) : ∃ x, Rep w w.heap.size s v.cells.toList x := by
  obtain ⟨m, hm⟩ := h
  exact (rep_all (Nat.le_refl _) n).1 _ _ _ _ _ hf hm

/-- an argument of one cell -/
theorem rep_one {w : World} {B : Nat} {s : Sh} {v : Value} {x : s.Val} (h : Rep w B s v.cells.toList x) (hv : v.cells = #[v]) : Rep w B s [v] x := by
  rw [hv] at h; exact h
end Go.Proofs.Ytpdfmeaemlgniaa
