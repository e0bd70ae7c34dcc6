/-
  Catalogs in memory; what the package-level variables hold.
-/
import Derived.Test.YtjmfcjidhmaibaaGreatDoorLib
import Derived.Test.YtjmfcjidhmaibaaGreatDoorCatM
import Derived.Test.YtjmfcjidhmaibaaGreatDoorChecked
import Derived.Deep.RegionHeld3
import Derived.Shelf.Vars
import Derived.Lib.LaidTab
namespace Go.Proofs.YtjmfcjidhmaibaaGreatDoor
open Go.RowKit
set_option linter.unusedVariables false

/-! ## columns and numbers in memory -/
def Col.row (c : Col) : List Value := [.string c.n, .int .i64 c.k]
abbrev CV (n : ByteArray) (k : Int) : Value := .agg #[.string n, .int .i64 k]
def crows : List Col → List Value
  | [] => []
  | v :: l => v.row ++ crows l
theorem crows_length : ∀ (l : List Col), (crows l).length = l.length * 2
  | [] => rfl
  | v :: l => by simp [crows, Col.row, crows_length l]; omega
theorem crows_append : ∀ (l m : List Col), crows (l ++ m) = crows l ++ crows m
  | [], m => rfl
  | v :: l, m => by simp [crows, crows_append l m]
theorem crows_at : ∀ (l : List Col) (k : Nat) (v : Col), l[k]? = some v → ∀ j, j < 2 → (crows l)[k * 2 + j]? = v.row[j]?
  | [], k, v, h, j, hj => by simp at h
  | x :: l, 0, v, h, j, hj => by
    obtain rfl : x = v := by simpa using h
    rw [Nat.zero_mul, Nat.zero_add, crows, List.getElem?_append_left (by simpa [Col.row] using hj)]
  | x :: l, k + 1, v, h, j, hj => by
    rw [crows, List.getElem?_append_right (by simp [Col.row]; omega)]
    have : (k + 1) * 2 + j - x.row.length = k * 2 + j := by simp [Col.row]; omega
    rw [this]
    exact crows_at l k v (by simpa using h) j hj
theorem crows_one : ∀ (l : List Col) (u : Value), u ∈ crows l → u.oneCell' = true
  | [], u, h => by simp [crows] at h
  | v :: l, u, h => by
    rw [crows, List.mem_append] at h
    rcases h with h | h
    · simp [Col.row] at h
      rcases h with rfl | rfl <;> rfl
    · exact crows_one l u h
/-- v reads as the columns l, which lie in block ob -/
def Cs (w : World) (v : Value) (ob : Nat) (l : List Col) : Prop := Sl w v ob 2 l.length (crows l)
theorem Cs.ext {X : List Nat} {w w' : World} {v : Value} {ob : Nat} {l : List Col} (h : Cs w v ob l) (he : Ext X w w') (hx : ob ∉ X) : Cs w' v ob l := Sl.ext h he hx
theorem sl_shape {w : World} {v : Value} {ob size n : Nat} {xs : List Value} (h : Sl w v ob size n xs) : ∃ a cap, v = .slice a n cap := by
  rcases h.2 with ⟨rfl, h2⟩ | ⟨off, sp, cap, rfl, _⟩
  · exact ⟨none, 0, by rw [h2]⟩
  · exact ⟨_, _, rfl⟩
theorem Cs.shape {w : World} {v : Value} {ob : Nat} {l : List Col} (h : Cs w v ob l) : ∃ a cap, v = .slice a l.length cap := sl_shape h
theorem Cs.at {w : World} {a : Option Addr} {n c ob : Nat} {l : List Col} (h : Cs w (.slice a n c) ob l) (k : Nat) (hk : k < l.length) :
    ∃ o N K, a = some ⟨ob, o, none⟩ ∧ l[k]? = some ⟨N, K⟩ ∧ w.cell? ⟨ob, o + k * 2, none⟩ = some (.string N) ∧ w.cell? ⟨ob, o + k * 2 + 1, none⟩ = some (.int .i64 K) := by
  rcases h.2 with ⟨h1, h2⟩ | ⟨off, sp, cap, h1, _, _, hsp, h3⟩
  · simp only [Value.slice.injEq] at h1; omega
  · simp only [Value.slice.injEq] at h1
    obtain ⟨rfl, rfl, rfl⟩ := h1
    obtain rfl : sp = none := by rcases hsp with h | h; omega; exact h
    have hx : l[k]? = some l[k] := List.getElem?_eq_getElem hk
    have hr := crows_at l k _ hx
    exact ⟨off, l[k].n, l[k].k, rfl, hx, h3 (k * 2 + 0) _ (hr 0 (by decide)), h3 (k * 2 + 1) _ (hr 1 (by decide))⟩
theorem Cs.lit (w : World) (l : List Col) (e : TypeId) (hl : l.length ≤ 1000) : Cs (w.alloc (.cells (crows l).toArray e)) (.slice (some ⟨w.heap.size, 0, none⟩) l.length l.length) w.heap.size l :=
  Sl.lit w (crows l) e 2 l.length (crows_length l) (by unfold maxLen; omega)
abbrev IV (k : Int) : Value := .int .i64 k
/-- v reads as the numbers l -/
def Is (w : World) (v : Value) (ob : Nat) (l : List Int) : Prop := Sl w v ob 1 l.length (l.map IV)
theorem Is.ext {X : List Nat} {w w' : World} {v : Value} {ob : Nat} {l : List Int} (h : Is w v ob l) (he : Ext X w w') (hx : ob ∉ X) : Is w' v ob l := Sl.ext h he hx
theorem Is.shape {w : World} {v : Value} {ob : Nat} {l : List Int} (h : Is w v ob l) : ∃ a cap, v = .slice a l.length cap := sl_shape h
theorem Is.at {w : World} {a : Option Addr} {n c ob : Nat} {l : List Int} (h : Is w (.slice a n c) ob l) (k : Nat) (hk : k < l.length) :
    ∃ o K, a = some ⟨ob, o, none⟩ ∧ l[k]? = some K ∧ w.cell? ⟨ob, o + k, none⟩ = some (.int .i64 K) := by
  rcases h.2 with ⟨h1, h2⟩ | ⟨off, sp, cap, h1, _, _, hsp, h3⟩
  · simp only [Value.slice.injEq] at h1; omega
  · simp only [Value.slice.injEq] at h1
    obtain ⟨rfl, rfl, rfl⟩ := h1
    obtain rfl : sp = none := by rcases hsp with h | h; omega; exact h
    have hx : l[k]? = some l[k] := List.getElem?_eq_getElem hk
    exact ⟨off, l[k], rfl, hx, h3 k _ (by rw [List.getElem?_map, hx]; rfl)⟩

/-! ## tables in memory -/
/-- what a table's cells hold: its name, and where its lists are -/
structure Raw where
  n : ByteArray
  c : Value
  k : Value
def Raw.row (r : Raw) : List Value := [.string r.n, r.c, r.k]
abbrev TV (n : ByteArray) (c k : Value) : Value := .agg #[.string n, c, k]
def rrows : List Raw → List Value
  | [] => []
  | v :: l => v.row ++ rrows l
theorem rrows_length : ∀ (l : List Raw), (rrows l).length = l.length * 3
  | [] => rfl
  | v :: l => by simp [rrows, Raw.row, rrows_length l]; omega
theorem rrows_append : ∀ (l m : List Raw), rrows (l ++ m) = rrows l ++ rrows m
  | [], m => rfl
  | v :: l, m => by simp [rrows, rrows_append l m]
theorem rrows_at : ∀ (l : List Raw) (k : Nat) (v : Raw), l[k]? = some v → ∀ j, j < 3 → (rrows l)[k * 3 + j]? = v.row[j]?
  | [], k, v, h, j, hj => by simp at h
  | x :: l, 0, v, h, j, hj => by
    obtain rfl : x = v := by simpa using h
    rw [Nat.zero_mul, Nat.zero_add, rrows, List.getElem?_append_left (by simpa [Raw.row] using hj)]
  | x :: l, k + 1, v, h, j, hj => by
    rw [rrows, List.getElem?_append_right (by simp [Raw.row]; omega)]
    have : (k + 1) * 3 + j - x.row.length = k * 3 + j := by simp [Raw.row]; omega
    rw [this]
    exact rrows_at l k v (by simpa using h) j hj
/-- r reads as the table t; its lists lie outside of X -/
def TIs (X : List Nat) (w : World) (r : Raw) (t : Tab) : Prop :=
  r.n = t.n ∧ (∃ oc, oc ∉ X ∧ Cs w r.c oc t.cols) ∧ (∃ ok, ok ∉ X ∧ Is w r.k ok t.keys)
theorem TIs.ext {X : List Nat} {w w' : World} {r : Raw} {t : Tab} (h : TIs X w r t) (he : Ext X w w') : TIs X w' r t := by
  obtain ⟨h1, ⟨oc, h2, h3⟩, ok, h4, h5⟩ := h
  exact ⟨h1, ⟨oc, h2, h3.ext he h2⟩, ok, h4, h5.ext he h4⟩
theorem TIs.keep {X : List Nat} {w w' : World} {r : Raw} {t : Tab} (h : TIs X w r t) (he : Ext [] w w') : TIs X w' r t := by
  obtain ⟨h1, ⟨oc, h2, h3⟩, ok, h4, h5⟩ := h
  exact ⟨h1, ⟨oc, h2, h3.ext he (by simp)⟩, ok, h4, h5.ext he (by simp)⟩
theorem TIs.mono {X Y : List Nat} {w : World} {r : Raw} {t : Tab} (h : TIs X w r t) (hy : ∀ i ∈ Y, i ∈ X) : TIs Y w r t := by
  obtain ⟨h1, ⟨oc, h2, h3⟩, ok, h4, h5⟩ := h
  exact ⟨h1, ⟨oc, fun h => h2 (hy _ h), h3⟩, ok, fun h => h4 (hy _ h), h5⟩
theorem TIs.bare {X : List Nat} {w : World} {r : Raw} {t : Tab} (h : TIs X w r t) : TIs [] w r t := h.mono (by simp)
theorem TIs.shape {X : List Nat} {w : World} {r : Raw} {t : Tab} (h : TIs X w r t) : ∃ a c a' c', r = ⟨t.n, .slice a t.cols.length c, .slice a' t.keys.length c'⟩ := by
  obtain ⟨h1, ⟨oc, h2, h3⟩, ok, h4, h5⟩ := h
  obtain ⟨a, c, e⟩ := h3.shape
  obtain ⟨a', c', e'⟩ := h5.shape
  cases r
  simp only at h1 e e'
  subst h1 e e'
  exact ⟨_, _, _, _, rfl⟩
/-- the rows rs read as the tables l -/
def RIs (X : List Nat) (w : World) (rs : List Raw) (l : List Tab) : Prop := rs.length = l.length ∧ ∀ (k : Nat) r t, rs[k]? = some r → l[k]? = some t → TIs X w r t
theorem RIs.ext {X : List Nat} {w w' : World} {rs : List Raw} {l : List Tab} (h : RIs X w rs l) (he : Ext X w w') : RIs X w' rs l := ⟨h.1, fun k r t h1 h2 => (h.2 k r t h1 h2).ext he⟩
theorem RIs.keep {X : List Nat} {w w' : World} {rs : List Raw} {l : List Tab} (h : RIs X w rs l) (he : Ext [] w w') : RIs X w' rs l := ⟨h.1, fun k r t h1 h2 => (h.2 k r t h1 h2).keep he⟩
theorem RIs.mono {X Y : List Nat} {w : World} {rs : List Raw} {l : List Tab} (h : RIs X w rs l) (hy : ∀ i ∈ Y, i ∈ X) : RIs Y w rs l := ⟨h.1, fun k r t h1 h2 => (h.2 k r t h1 h2).mono hy⟩
theorem RIs.nil (X : List Nat) (w : World) : RIs X w [] [] := ⟨rfl, fun k r t h => by simp at h⟩
theorem RIs.append {X : List Nat} {w : World} {rs rs' : List Raw} {l l' : List Tab} (h : RIs X w rs l) (h' : RIs X w rs' l') : RIs X w (rs ++ rs') (l ++ l') := by
  refine ⟨by rw [List.length_append, List.length_append, h.1, h'.1], fun k r t hr ht => ?_⟩
  by_cases hk : k < l.length
  · rw [List.getElem?_append_left (by rw [h.1]; exact hk)] at hr
    rw [List.getElem?_append_left hk] at ht
    exact h.2 k r t hr ht
  · rw [List.getElem?_append_right (by rw [h.1]; omega), h.1] at hr
    rw [List.getElem?_append_right (by omega)] at ht
    exact h'.2 _ r t hr ht
theorem RIs.one {X : List Nat} {w : World} {r : Raw} {t : Tab} (h : TIs X w r t) : RIs X w [r] [t] := ⟨rfl, fun k r' t' hr ht => by
  match k with
  | 0 => simp at hr ht; subst hr ht; exact h
  | k + 1 => simp at hr⟩
theorem RIs.take {X : List Nat} {w : World} {rs : List Raw} {l : List Tab} (h : RIs X w rs l) (n : Nat) : RIs X w (rs.take n) (l.take n) := by
  refine ⟨by rw [List.length_take, List.length_take, h.1], fun k r t hr ht => ?_⟩
  rw [List.getElem?_take] at hr ht
  split at hr
  · rename_i hk
    rw [if_pos hk] at ht
    exact h.2 k r t hr ht
  · cases hr
theorem RIs.drop {X : List Nat} {w : World} {rs : List Raw} {l : List Tab} (h : RIs X w rs l) (n : Nat) : RIs X w (rs.drop n) (l.drop n) := by
  refine ⟨by rw [List.length_drop, List.length_drop, h.1], fun k r t hr ht => ?_⟩
  rw [List.getElem?_drop] at hr ht
  exact h.2 _ r t hr ht
theorem rrows_one {X : List Nat} {w : World} : ∀ {rs : List Raw} {l : List Tab}, RIs X w rs l → ∀ u ∈ rrows rs, u.oneCell' = true
  | [], l, h, u, hu => by simp [rrows] at hu
  | r :: rs, [], h, u, hu => by have := h.1; simp at this
  | r :: rs, t :: l, h, u, hu => by
    rw [rrows, List.mem_append] at hu
    rcases hu with hu | hu
    · obtain ⟨a, c, a', c', e⟩ := (h.2 0 r t rfl rfl).shape
      subst e
      simp [Raw.row] at hu
      rcases hu with rfl | rfl | rfl <;> rfl
    · exact rrows_one (l := l) (by have := h.drop 1; simpa using this) u hu
/-- v is a list of tables, of these rows, which lie in block ob -/
def Rs (w : World) (v : Value) (ob : Nat) (rs : List Raw) : Prop := Sl w v ob 3 rs.length (rrows rs)
theorem Rs.ext {X : List Nat} {w w' : World} {v : Value} {ob : Nat} {l : List Raw} (h : Rs w v ob l) (he : Ext X w w') (hx : ob ∉ X) : Rs w' v ob l := Sl.ext h he hx
theorem Rs.shape {w : World} {v : Value} {ob : Nat} {l : List Raw} (h : Rs w v ob l) : ∃ a cap, v = .slice a l.length cap := sl_shape h
theorem Rs.at {w : World} {a : Option Addr} {n c ob : Nat} {l : List Raw} (h : Rs w (.slice a n c) ob l) (k : Nat) (hk : k < l.length) :
    ∃ o N C K, a = some ⟨ob, o, none⟩ ∧ l[k]? = some ⟨N, C, K⟩ ∧ w.cell? ⟨ob, o + k * 3, none⟩ = some (.string N) ∧ w.cell? ⟨ob, o + k * 3 + 1, none⟩ = some C ∧ w.cell? ⟨ob, o + k * 3 + 2, none⟩ = some K := by
  rcases h.2 with ⟨h1, h2⟩ | ⟨off, sp, cap, h1, _, _, hsp, h3⟩
  · simp only [Value.slice.injEq] at h1; omega
  · simp only [Value.slice.injEq] at h1
    obtain ⟨rfl, rfl, rfl⟩ := h1
    obtain rfl : sp = none := by rcases hsp with h | h; omega; exact h
    have hx : l[k]? = some l[k] := List.getElem?_eq_getElem hk
    have hr := rrows_at l k _ hx
    exact ⟨off, l[k].n, l[k].c, l[k].k, rfl, hx, h3 (k * 3 + 0) _ (hr 0 (by decide)), h3 (k * 3 + 1) _ (hr 1 (by decide)), h3 (k * 3 + 2) _ (hr 2 (by decide))⟩
/-- v reads as the list of tables l -/
def Ts (w : World) (v : Value) (l : List Tab) : Prop := ∃ ob rs, Rs w v ob rs ∧ RIs [] w rs l
theorem Ts.ext {w w' : World} {v : Value} {l : List Tab} (h : Ts w v l) (he : Ext [] w w') : Ts w' v l := by
  obtain ⟨ob, rs, h1, h2⟩ := h
  exact ⟨ob, rs, h1.ext he (by simp), h2.ext he⟩
theorem Ts.shape {w : World} {v : Value} {l : List Tab} (h : Ts w v l) : ∃ a cap, v = .slice a l.length cap := by
  obtain ⟨ob, rs, h1, h2⟩ := h
  obtain ⟨a, c, e⟩ := h1.shape
  exact ⟨a, c, by rw [e, h2.1]⟩
theorem Ts.nil (w : World) : Ts w (.slice none 0 0) [] := ⟨0, [], Sl.nil w 0 3, RIs.nil _ _⟩
/-- its k-th table: the cells' values, and what they read as -/
theorem Ts.at {w : World} {a : Option Addr} {n c : Nat} {l : List Tab} (h : Ts w (.slice a n c) l) (k : Nat) (t : Tab) (ht : l[k]? = some t) :
    ∃ ob o a1 c1 a2 c2, a = some ⟨ob, o, none⟩ ∧ w.cell? ⟨ob, o + k * 3, none⟩ = some (.string t.n) ∧ w.cell? ⟨ob, o + k * 3 + 1, none⟩ = some (.slice a1 t.cols.length c1) ∧ w.cell? ⟨ob, o + k * 3 + 2, none⟩ = some (.slice a2 t.keys.length c2) ∧
      (∃ oc, Cs w (.slice a1 t.cols.length c1) oc t.cols) ∧ (∃ ok, Is w (.slice a2 t.keys.length c2) ok t.keys) := by
  obtain ⟨ob, rs, h1, h2⟩ := h
  have hk : k < rs.length := by rw [h2.1]; exact (List.getElem?_eq_some_iff.1 ht).1
  obtain ⟨o, N, C, K, e, hr, c0, c1, c2⟩ := h1.at k hk
  have hT := h2.2 k _ _ hr ht
  obtain ⟨b, d, b', d', e2⟩ := hT.shape
  obtain ⟨rfl, rfl, rfl⟩ : N = t.n ∧ C = .slice b t.cols.length d ∧ K = .slice b' t.keys.length d' := by simpa using e2
  obtain ⟨_, ⟨oc, _, h3⟩, ok, _, h4⟩ := hT
  exact ⟨ob, o, b, d, b', d', e, c0, c1, c2, ⟨oc, h3⟩, ok, h4⟩
theorem heap_new (w : World) (o : Obj) : (w.alloc o).heap[w.heap.size]? = some o := by
  show (w.heap.push o)[w.heap.size]? = some o
  simp

/-! ## the package-level variables -/
def wordsV : Array Value := (wordsL.map fun x => Value.string (B x)).toArray
def kindsL : List (List UInt8) := [[], [98, 111, 111, 108], [105, 110, 116], [116, 101, 120, 116]]
def kindsV : Array Value := (kindsL.map fun x => Value.string (B x)).toArray
structure Glob (w : World) : Prop where
  words : ∃ t fr, w.heap[(2 : Nat)]? = some (.cells wordsV t fr)
  kinds : ∃ t fr, w.heap[(0 : Nat)]? = some (.cells kindsV t fr)
  mlen : ∃ m, w.cell? ⟨1, 0, none⟩ = some (.int .i64 m)
theorem Glob.ext {w w' : World} (h : Glob w) (e : Ext [] w w') : Glob w' where
  words := by obtain ⟨a, b, c⟩ := h.words; exact ⟨a, b, e.heap c (by simp)⟩
  kinds := by obtain ⟨a, b, c⟩ := h.kinds; exact ⟨a, b, e.heap c (by simp)⟩
  mlen := by obtain ⟨a, c⟩ := h.mlen; exact ⟨a, e.read c (by simp)⟩
end Go.Proofs.YtjmfcjidhmaibaaGreatDoor
