/-
  Nets in memory: lists of structs; parcels; what is the call's own.
-/
import Derived.Test.YtpdfmeaemlgniaaLib
import Derived.Test.YtpdfmeaemlgniaaNetM
import Derived.Test.YtpdfmeaemlgniaaOctA
import Derived.Test.YtpdfmeaemlgniaaChecked
import Derived.Deep.RegionHeld3
namespace Go.Proofs.Ytpdfmeaemlgniaa
open Go.RowKit
set_option linter.unusedVariables false

/-! ## lists of structs -/
section
variable {α : Type} {f : α → List Value} {n : Nat}
def flat (f : α → List Value) : List α → List Value
  | [] => []
  | x :: l => f x ++ flat f l
structure Wide (f : α → List Value) (n : Nat) : Prop where
  pos : 0 < n
  len : ∀ x, (f x).length = n
theorem flat_length (h : Wide f n) : ∀ (l : List α), (flat f l).length = l.length * n
  | [] => by simp [flat]
  | v :: l => by rw [flat, List.length_append, h.len, flat_length h l, List.length_cons, Nat.add_mul]; omega
theorem flat_append : ∀ (l m : List α), flat f (l ++ m) = flat f l ++ flat f m
  | [], m => rfl
  | v :: l, m => by simp [flat, flat_append l m]
theorem flat_one (x : α) : flat f [x] = f x := by simp [flat]
theorem flat_at (h : Wide f n) : ∀ (l : List α) (k : Nat) (v : α), l[k]? = some v → ∀ j, j < n → (flat f l)[k * n + j]? = (f v)[j]?
  | [], k, v, hk, j, hj => by simp at hk
  | x :: l, 0, v, hk, j, hj => by
    obtain rfl : x = v := by simpa using hk
    rw [Nat.zero_mul, Nat.zero_add, flat, List.getElem?_append_left (by rw [h.len]; exact hj)]
  | x :: l, k + 1, v, hk, j, hj => by
    have e : (k + 1) * n + j - (f x).length = k * n + j := by rw [h.len, Nat.add_mul]; omega
    rw [flat, List.getElem?_append_right (by rw [h.len, Nat.add_mul]; omega), e]
    exact flat_at h l k v (by simpa using hk) j hj
theorem flat_take (h : Wide f n) (l : List α) (k : Nat) : (flat f l).take (k * n) = flat f (l.take k) := by
  by_cases hk : k ≤ l.length
  · conv => lhs; rw [← List.take_append_drop k l, flat_append]
    rw [List.take_left' (by rw [flat_length h, List.length_take, Nat.min_eq_left hk])]
  · rw [List.take_of_length_le (by rw [flat_length h]; exact Nat.mul_le_mul_right n (by omega)), List.take_of_length_le (by omega)]
theorem flat_drop (h : Wide f n) (l : List α) (k : Nat) : (flat f l).drop (k * n) = flat f (l.drop k) := by
  by_cases hk : k ≤ l.length
  · conv => lhs; rw [← List.take_append_drop k l, flat_append]
    rw [List.drop_left' (by rw [flat_length h, List.length_take, Nat.min_eq_left hk])]
  · rw [List.drop_of_length_le (by rw [flat_length h]; exact Nat.mul_le_mul_right n (by omega)), List.drop_of_length_le (by omega)]
    rfl
theorem flat_one_cell (h1 : ∀ x u, u ∈ f x → u.oneCell' = true) : ∀ (l : List α) (u : Value), u ∈ flat f l → u.oneCell' = true
  | [], u, h => by simp [flat] at h
  | v :: l, u, h => by
    rw [flat, List.mem_append] at h
    rcases h with h | h
    · exact h1 v u h
    · exact flat_one_cell h1 l u h
theorem flat_set (h : Wide f n) : ∀ (l : List α) (rest : List Value) (k : Nat) (v v' : α) (j : Nat) (u : Value), l[k]? = some v → j < n → f v' = (f v).set j u → (flat f l ++ rest).set (k * n + j) u = flat f (l.set k v') ++ rest
  | [], rest, k, v, v', j, u, hk, hj, e => by simp at hk
  | x :: l, rest, 0, v, v', j, u, hk, hj, e => by
    obtain rfl : x = v := by simpa using hk
    rw [Nat.zero_mul, Nat.zero_add, List.set_cons_zero, flat, flat, List.append_assoc, List.append_assoc, List.set_append_left _ _ (by rw [h.len]; exact hj), e]
  | x :: l, rest, k + 1, v, v', j, u, hk, hj, e => by
    have := flat_set h l rest k v v' j u (by simpa using hk) hj e
    rw [List.set_cons_succ, flat, flat, List.append_assoc, List.append_assoc, ← this, show (k + 1) * n + j = (f x).length + (k * n + j) by rw [h.len, Nat.add_mul]; omega, List.set_append_right _ _ (by omega), Nat.add_sub_cancel_left]
/-- its k-th element's cells -/
theorem Sl.flat_cells {w : World} {a : Option Addr} {m c ob : Nat} {l : List α} (h : Wide f n) (hs : Sl w (.slice a m c) ob n l.length (flat f l)) (k : Nat) (x : α) (hk : l[k]? = some x) :
    ∃ o, a = some ⟨ob, o, none⟩ ∧ ∀ j u, (f x)[j]? = some u → w.cell? ⟨ob, o + (k * n + j), none⟩ = some u := by
  have hl := (List.getElem?_eq_some_iff.1 hk).1
  rcases hs.2 with ⟨h1, h2⟩ | ⟨off, sp, cap, h1, _, _, hsp, h3⟩
  · omega
  · simp only [Value.slice.injEq] at h1
    obtain ⟨rfl, rfl, rfl⟩ := h1
    obtain rfl : sp = none := by rcases hsp with h | h; omega; exact h
    refine ⟨off, rfl, fun j u hu => h3 _ u ?_⟩
    have hj : j < n := by rw [← h.len x]; exact (List.getElem?_eq_some_iff.1 hu).1
    rw [flat_at h l k x hk j hj, hu]
end
theorem sl_shape {w : World} {v : Value} {ob size n : Nat} {xs : List Value} (h : Sl w v ob size n xs) : ∃ a cap, v = .slice a n cap := by
  rcases h.2 with ⟨rfl, h2⟩ | ⟨off, sp, cap, rfl, _⟩
  · exact ⟨none, 0, by rw [h2]⟩
  · exact ⟨_, _, rfl⟩
theorem sl_len {w : World} {v : Value} {ob size n : Nat} {xs : List Value} (h : Sl w v ob size n xs) : n ≤ maxLen := by
  rcases h.2 with ⟨rfl, h2⟩ | ⟨off, sp, cap, rfl, h1, h2, _⟩
  · rw [h2]; exact Nat.zero_le _
  · exact Nat.le_trans h1 h2
theorem own_len {w : World} {base e size n : Nat} {v : Value} {xs : List Value} (h : w.ownsRow base e size v n xs) : n ≤ maxLen := by
  obtain ⟨ob, h1, _⟩ := Sl.of_own h
  exact sl_len h1
theorem own_shape {w : World} {base e size n : Nat} {v : Value} {xs : List Value} (h : w.ownsRow base e size v n xs) : ∃ a cap, v = .slice a n cap := by
  obtain ⟨ob, h1, _⟩ := Sl.of_own h
  exact sl_shape h1

/-! ## parcels in memory -/
/-- what a parcel's cells hold -/
structure PRaw where
  num : Nat
  fr : Int
  to : Int
  b : Value
  sp : Bool
def PRaw.row (r : PRaw) : List Value := [.int .u64 (r.num : Int), .int .i64 r.fr, .int .i64 r.to, r.b, .bool r.sp]
abbrev PV (num : Nat) (fr to : Int) (b : Value) (sp : Bool) : Value := .agg #[.int .u64 (num : Int), .int .i64 fr, .int .i64 to, b, .bool sp]
abbrev NV (s : Nat) (v : Value) : Value := .agg #[.int .u64 (s : Int), v]
theorem wideP : Wide PRaw.row 5 := ⟨by decide, fun _ => rfl⟩
abbrev prows (l : List PRaw) : List Value := flat PRaw.row l
/-- r reads as the parcel p; its bytes lie outside of X -/
def PIs (X : List Nat) (w : World) (r : PRaw) (p : Par) : Prop := r.num = p.num ∧ r.fr = p.fr ∧ r.to = p.to ∧ r.sp = p.sp ∧ ∃ ob, ob ∉ X ∧ Bs w r.b ob p.bs
theorem PIs.ext {X : List Nat} {w w' : World} {r : PRaw} {p : Par} (h : PIs X w r p) (he : Ext X w w') : PIs X w' r p := by
  obtain ⟨h1, h2, h3, h4, ob, h5, h6⟩ := h
  exact ⟨h1, h2, h3, h4, ob, h5, h6.ext he h5⟩
theorem PIs.keep {X : List Nat} {w w' : World} {r : PRaw} {p : Par} (h : PIs X w r p) (he : Ext [] w w') : PIs X w' r p := by
  obtain ⟨h1, h2, h3, h4, ob, h5, h6⟩ := h
  exact ⟨h1, h2, h3, h4, ob, h5, h6.ext he (by simp)⟩
theorem PIs.mono {X Y : List Nat} {w : World} {r : PRaw} {p : Par} (h : PIs X w r p) (hy : ∀ i ∈ Y, i ∈ X) : PIs Y w r p := by
  obtain ⟨h1, h2, h3, h4, ob, h5, h6⟩ := h
  exact ⟨h1, h2, h3, h4, ob, fun m => h5 (hy _ m), h6⟩
theorem PIs.shape {X : List Nat} {w : World} {r : PRaw} {p : Par} (h : PIs X w r p) : ∃ a c, r = ⟨p.num, p.fr, p.to, .slice a p.bs.length c, p.sp⟩ := by
  obtain ⟨h1, h2, h3, h4, ob, _, h5⟩ := h
  obtain ⟨a, c, e⟩ := h5.shape
  cases r
  simp only at h1 h2 h3 h4 e
  subst h1 h2 h3 h4 e
  exact ⟨_, _, rfl⟩
/-- the rows rs read as the parcels l -/
def RIs (X : List Nat) (w : World) (rs : List PRaw) (l : List Par) : Prop := rs.length = l.length ∧ ∀ (k : Nat) r p, rs[k]? = some r → l[k]? = some p → PIs X w r p
theorem RIs.ext {X : List Nat} {w w' : World} {rs : List PRaw} {l : List Par} (h : RIs X w rs l) (he : Ext X w w') : RIs X w' rs l := ⟨h.1, fun k r t h1 h2 => (h.2 k r t h1 h2).ext he⟩
theorem RIs.keep {X : List Nat} {w w' : World} {rs : List PRaw} {l : List Par} (h : RIs X w rs l) (he : Ext [] w w') : RIs X w' rs l := ⟨h.1, fun k r t h1 h2 => (h.2 k r t h1 h2).keep he⟩
theorem RIs.mono {X Y : List Nat} {w : World} {rs : List PRaw} {l : List Par} (h : RIs X w rs l) (hy : ∀ i ∈ Y, i ∈ X) : RIs Y w rs l := ⟨h.1, fun k r t h1 h2 => (h.2 k r t h1 h2).mono hy⟩
theorem RIs.nil (X : List Nat) (w : World) : RIs X w [] [] := ⟨rfl, fun k r t h => by simp at h⟩
theorem RIs.append {X : List Nat} {w : World} {rs rs' : List PRaw} {l l' : List Par} (h : RIs X w rs l) (h' : RIs X w rs' l') : RIs X w (rs ++ rs') (l ++ l') := by
  refine ⟨by rw [List.length_append, List.length_append, h.1, h'.1], fun k r t hr ht => ?_⟩
  by_cases hk : k < l.length
  · rw [List.getElem?_append_left (by rw [h.1]; exact hk)] at hr
    rw [List.getElem?_append_left hk] at ht
    exact h.2 k r t hr ht
  · rw [List.getElem?_append_right (by rw [h.1]; omega), h.1] at hr
    rw [List.getElem?_append_right (by omega)] at ht
    exact h'.2 _ r t hr ht
theorem RIs.one {X : List Nat} {w : World} {r : PRaw} {t : Par} (h : PIs X w r t) : RIs X w [r] [t] := ⟨rfl, fun k r' t' hr ht => by
  match k with
  | 0 => simp at hr ht; subst hr ht; exact h
  | k + 1 => simp at hr⟩
theorem prows_one {X : List Nat} {w : World} : ∀ {rs : List PRaw} {l : List Par}, RIs X w rs l → ∀ u ∈ prows rs, u.oneCell' = true
  | [], l, h, u, hu => by simp [flat] at hu
  | r :: rs, [], h, u, hu => by have := h.1; simp at this
  | r :: rs, t :: l, h, u, hu => by
    have hu : u ∈ r.row ++ prows rs := hu
    rw [List.mem_append] at hu
    rcases hu with hu | hu
    · obtain ⟨a, c, e⟩ := (h.2 0 r t rfl rfl).shape
      subst e
      simp [PRaw.row] at hu
      rcases hu with rfl | rfl | rfl | rfl | rfl <;> rfl
    · exact prows_one (l := l) ⟨by have := h.1; simpa using this, fun k r' p' h1 h2 => h.2 (k + 1) r' p' (by simpa using h1) (by simpa using h2)⟩ u hu
/-- v is a list of parcels, of these rows, which lie in block ob -/
def Rs (w : World) (v : Value) (ob : Nat) (rs : List PRaw) : Prop := Sl w v ob 5 rs.length (prows rs)
theorem Rs.ext {X : List Nat} {w w' : World} {v : Value} {ob : Nat} {l : List PRaw} (h : Rs w v ob l) (he : Ext X w w') (hx : ob ∉ X) : Rs w' v ob l := Sl.ext h he hx
theorem Rs.shape {w : World} {v : Value} {ob : Nat} {l : List PRaw} (h : Rs w v ob l) : ∃ a cap, v = .slice a l.length cap := sl_shape h
/-- v reads as the list of parcels l -/
def Ps (w : World) (v : Value) (l : List Par) : Prop := ∃ ob rs, Rs w v ob rs ∧ RIs [] w rs l
theorem Ps.ext {w w' : World} {v : Value} {l : List Par} (h : Ps w v l) (he : Ext [] w w') : Ps w' v l := by
  obtain ⟨ob, rs, h1, h2⟩ := h
  exact ⟨ob, rs, h1.ext he (by simp), h2.ext he⟩
theorem Ps.shape {w : World} {v : Value} {l : List Par} (h : Ps w v l) : ∃ a cap, v = .slice a l.length cap := by
  obtain ⟨ob, rs, h1, h2⟩ := h
  obtain ⟨a, c, e⟩ := h1.shape
  exact ⟨a, c, by rw [e, h2.1]⟩
theorem Ps.len {w : World} {v : Value} {l : List Par} (h : Ps w v l) : l.length ≤ maxLen := by
  obtain ⟨ob, rs, h1, h2⟩ := h
  rw [← h2.1]; exact sl_len h1
theorem Ps.nil (w : World) : Ps w (.slice none 0 0) [] := ⟨0, [], Sl.nil w 0 5, RIs.nil _ _⟩
/-- its k-th parcel: the cells, and its bytes -/
theorem Ps.at {w : World} {a : Option Addr} {n c : Nat} {l : List Par} (h : Ps w (.slice a n c) l) (k : Nat) (p : Par) (hp : l[k]? = some p) :
    ∃ ob o a1 c1, a = some ⟨ob, o, none⟩ ∧ w.cell? ⟨ob, o + k * 5, none⟩ = some (.int .u64 (p.num : Int)) ∧ w.cell? ⟨ob, o + k * 5 + 1, none⟩ = some (.int .i64 p.fr) ∧ w.cell? ⟨ob, o + k * 5 + 2, none⟩ = some (.int .i64 p.to) ∧
      w.cell? ⟨ob, o + k * 5 + 3, none⟩ = some (.slice a1 p.bs.length c1) ∧ w.cell? ⟨ob, o + k * 5 + 4, none⟩ = some (.bool p.sp) ∧ ∃ oc, Bs w (.slice a1 p.bs.length c1) oc p.bs := by
  obtain ⟨ob, rs, h1, h2⟩ := h
  have hk : k < rs.length := by rw [h2.1]; exact (List.getElem?_eq_some_iff.1 hp).1
  have hr : rs[k]? = some rs[k] := List.getElem?_eq_getElem hk
  obtain ⟨o, e, hc⟩ := Sl.flat_cells wideP h1 k _ hr
  have hT := h2.2 k _ _ hr hp
  obtain ⟨b, d, e2⟩ := hT.shape
  rw [e2] at hc hT
  obtain ⟨_, _, _, _, oc, _, h3⟩ := hT
  exact ⟨ob, o, b, d, e, hc 0 _ rfl, hc 1 _ rfl, hc 2 _ rfl, hc 3 _ rfl, hc 4 _ rfl, oc, h3⟩
theorem heap_new (w : World) (o : Obj) : (w.alloc o).heap[w.heap.size]? = some o := by
  show (w.heap.push o)[w.heap.size]? = some o
  simp

/-! ## the call's own -/
theorem own_mono {w : World} {A B e size n : Nat} {v : Value} {xs : List Value} (h : w.ownsRow B e size v n xs) (hb : A ≤ B) : w.ownsRow A e size v n xs := by
  refine ⟨h.1, ?_⟩
  rcases h.2 with h2 | ⟨g, cap, cur, rfl, h1, h3⟩
  · exact .inl h2
  · exact .inr ⟨g, cap, cur, rfl, by omega, h3⟩
/-- where its block is, and of which type -/
theorem own_block {w : World} {A e size n : Nat} {v : Value} {xs : List Value} (h : w.ownsRow A e size v n xs) {g : Nat} (hg : v.ownBlock = some g) : A ≤ g ∧ g < w.heap.size ∧ ∃ cs, w.heap[g]? = some (.cells cs e (0, 0)) := by
  rcases h.2 with ⟨rfl, _⟩ | ⟨g', cap, cur, rfl, h1, h2, _⟩
  · cases hg
  · obtain rfl : g' = g := by simpa [Value.ownBlock] using hg
    exact ⟨h1, size_heap h2, cur, h2⟩
/-- r reads as p, its bytes are the call's own -/
def OIs (A : Nat) (w : World) (r : PRaw) (p : Par) : Prop := r.num = p.num ∧ r.fr = p.fr ∧ r.to = p.to ∧ r.sp = p.sp ∧ w.ownsRow A 5 1 r.b p.bs.length (p.bs.map BV)
/-- no two of these have their bytes in one block -/
def Sep (rs : List PRaw) : Prop := ∀ (i j : Nat) r r', rs[i]? = some r → rs[j]? = some r' → i ≠ j → ∀ b, r.b.ownBlock = some b → r'.b.ownBlock ≠ some b
def OAll (A : Nat) (w : World) (rs : List PRaw) (l : List Par) : Prop := rs.length = l.length ∧ ∀ (k : Nat) r p, rs[k]? = some r → l[k]? = some p → OIs A w r p
/-- v reads as the list of parcels l, and is the call's own, bytes and all, from the block A on -/
structure OPs (A : Nat) (w : World) (v : Value) (l : List Par) (rs : List PRaw) : Prop where
  own : w.ownsRow A 33 5 v rs.length (prows rs)
  all : OAll A w rs l
  sep : Sep rs
theorem OIs.pis {A : Nat} {X : List Nat} {w : World} {r : PRaw} {p : Par} (h : OIs A w r p) (hX : ∀ k ∈ X, k < A) : PIs X w r p := by
  obtain ⟨h1, h2, h3, h4, h5⟩ := h
  obtain ⟨ob, h6, h7⟩ := Sl.of_own h5
  refine ⟨h1, h2, h3, h4, ?_⟩
  rcases h7 with h7 | ⟨h7, _⟩
  · obtain ⟨o', ho⟩ : ∃ o', o' ∉ X := ⟨A, fun m => by have := hX _ m; omega⟩
    refine ⟨o', ho, ?_⟩
    rw [h7] at h6 ⊢
    rcases h6.2 with h2 | ⟨off, sp, cap, h1, _⟩
    · exact ⟨h6.1, .inl h2⟩
    · simp at h1
  · exact ⟨ob, fun m => by have := hX _ m; omega, h6⟩
theorem OAll.ris {A : Nat} {w : World} {rs : List PRaw} {l : List Par} (h : OAll A w rs l) : RIs [] w rs l := ⟨h.1, fun k r p h1 h2 => (h.2 k r p h1 h2).pis (by simp)⟩
theorem OPs.ps {A : Nat} {w : World} {v : Value} {l : List Par} {rs : List PRaw} (h : OPs A w v l rs) : Ps w v l := by
  obtain ⟨ob, h1, _⟩ := Sl.of_own h.own
  exact ⟨ob, rs, h1, h.all.ris⟩
theorem OPs.shape {A : Nat} {w : World} {v : Value} {l : List Par} {rs : List PRaw} (h : OPs A w v l rs) : ∃ a cap, v = .slice a l.length cap := h.ps.shape
theorem OIs.mono {A B : Nat} {w : World} {r : PRaw} {p : Par} (h : OIs B w r p) (hb : A ≤ B) : OIs A w r p := ⟨h.1, h.2.1, h.2.2.1, h.2.2.2.1, own_mono h.2.2.2.2 hb⟩
theorem OPs.mono {A B : Nat} {w : World} {v : Value} {l : List Par} {rs : List PRaw} (h : OPs B w v l rs) (hb : A ≤ B) : OPs A w v l rs := ⟨own_mono h.own hb, ⟨h.all.1, fun k r p h1 h2 => (h.all.2 k r p h1 h2).mono hb⟩, h.sep⟩
theorem OIs.keep {A : Nat} {X : List Nat} {w w' : World} {r : PRaw} {p : Par} (h : OIs A w r p) (he : Ext X w w') (hX : ∀ b, r.b.ownBlock = some b → b ∉ X) : OIs A w' r p := ⟨h.1, h.2.1, h.2.2.1, h.2.2.2.1, own_ext h.2.2.2.2 he hX⟩
/-- what is written elsewhere leaves it -/
theorem OPs.keep {A : Nat} {X : List Nat} {w w' : World} {v : Value} {l : List Par} {rs : List PRaw} (h : OPs A w v l rs) (he : Ext X w w') (hX : ∀ k ∈ X, k < A ∨ w.heap.size ≤ k) : OPs A w' v l rs := by
  refine ⟨own_ext h.own he fun k hk m => ?_, ⟨h.all.1, fun k r p h1 h2 => (h.all.2 k r p h1 h2).keep he fun b hb m => ?_⟩, h.sep⟩
  · have := own_block h.own hk; have := hX k m; omega
  · have := own_block (h.all.2 k r p h1 h2).2.2.2.2 hb; have := hX b m; omega
theorem OPs.ext {A : Nat} {w w' : World} {v : Value} {l : List Par} {rs : List PRaw} (h : OPs A w v l rs) (he : Ext [] w w') : OPs A w' v l rs := h.keep he (by simp)
/-- a block of another type is none of its own -/
theorem OPs.other {A : Nat} {w : World} {v : Value} {l : List Par} {rs : List PRaw} (h : OPs A w v l rs) {b : Nat} {e : TypeId} {cs : Array Value} {fr : Nat × Nat} (hb : w.heap[b]? = some (.cells cs e fr)) (h1 : e ≠ 5) (h2 : e ≠ 33) {w' : World} (he : Ext [b] w w') : OPs A w' v l rs := by
  refine ⟨own_ext h.own he fun k hk m => ?_, ⟨h.all.1, fun k r p k1 k2 => (h.all.2 k r p k1 k2).keep he fun c hc m => ?_⟩, h.sep⟩
  · obtain rfl : k = b := by simpa using m
    obtain ⟨_, _, cs', hh⟩ := own_block h.own hk
    rw [hb] at hh; cases hh; exact h2 rfl
  · obtain rfl : c = b := by simpa using m
    obtain ⟨_, _, cs', hh⟩ := own_block (h.all.2 k r p k1 k2).2.2.2.2 hc
    rw [hb] at hh; cases hh; exact h1 rfl
theorem OPs.nil (A : Nat) (w : World) : OPs A w (.slice none 0 0) [] [] := ⟨World.ownsRow_nil _ _ _ _, ⟨rfl, fun k r p h => by simp at h⟩, fun i j r r' h => by simp at h⟩
theorem OAll.one {A : Nat} {w : World} {rs : List PRaw} {l : List Par} (h : OAll A w rs l) : ∀ u ∈ prows rs, u.oneCell' = true := prows_one h.ris
abbrev zPV : Value := .agg #[.int .u64 0, .int .i64 0, .int .i64 0, .slice none 0 0, .bool false]
theorem TPar : SliceTy Try.prog 23 33 5 56 zPV := SliceTy.mk' (by kernel_rfl) (by kernel_rfl) rfl (by decide)
end Go.Proofs.Ytpdfmeaemlgniaa
