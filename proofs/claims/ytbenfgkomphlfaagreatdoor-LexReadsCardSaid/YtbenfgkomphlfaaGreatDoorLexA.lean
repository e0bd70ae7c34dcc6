/-
  Tokens in memory; what the package-level variables hold; class and ahead.
-/
import Derived.Test.YtbenfgkomphlfaaGreatDoorLib
import Derived.Test.YtbenfgkomphlfaaGreatDoorLexM
import Derived.Test.YtbenfgkomphlfaaGreatDoorChecked
import Derived.Deep.RegionHeld3
import Derived.Shelf.Vars
import Derived.Lib.LaidTab
namespace Go.Proofs.YtbenfgkomphlfaaGreatDoor
open Go.RowKit
set_option linter.unusedVariables false

/-! ## a token by value, and in memory -/
abbrev TV (k a : Int) (s : ByteArray) (n : Int) : Value := .agg #[.int .i64 k, .int .i64 a, .string s, .int .u64 n]
abbrev Tok.v (t : Tok) : Value := TV t.k t.a t.s t.n
def Tok.row (t : Tok) : List Value := [.int .i64 t.k, .int .i64 t.a, .string t.s, .int .u64 t.n]
def trows : List Tok → List Value
  | [] => []
  | v :: l => v.row ++ trows l
theorem trows_length : ∀ (l : List Tok), (trows l).length = l.length * 4
  | [] => rfl
  | v :: l => by simp [trows, Tok.row, trows_length l]; omega
theorem trows_append : ∀ (l m : List Tok), trows (l ++ m) = trows l ++ trows m
  | [], m => rfl
  | v :: l, m => by simp [trows, trows_append l m]
theorem trows_at : ∀ (l : List Tok) (k : Nat) (v : Tok), l[k]? = some v → ∀ j, j < 4 → (trows l)[k * 4 + j]? = v.row[j]?
  | [], k, v, h, j, hj => by simp at h
  | x :: l, 0, v, h, j, hj => by
    obtain rfl : x = v := by simpa using h
    rw [Nat.zero_mul, Nat.zero_add, trows, List.getElem?_append_left (by simpa [Tok.row] using hj)]
  | x :: l, k + 1, v, h, j, hj => by
    rw [trows, List.getElem?_append_right (by simp [Tok.row]; omega)]
    have : (k + 1) * 4 + j - x.row.length = k * 4 + j := by simp [Tok.row]; omega
    rw [this]
    exact trows_at l k v (by simpa using h) j hj
theorem trows_one : ∀ (l : List Tok) (u : Value), u ∈ trows l → u.oneCell' = true
  | [], u, h => by simp [trows] at h
  | v :: l, u, h => by
    rw [trows, List.mem_append] at h
    rcases h with h | h
    · simp [Tok.row] at h
      rcases h with rfl | rfl | rfl | rfl <;> rfl
    · exact trows_one l u h
/-- v reads as the tokens l, which lie in block ob -/
def Ts (w : World) (v : Value) (ob : Nat) (l : List Tok) : Prop := Sl w v ob 4 l.length (trows l)
theorem Ts.ext {X : List Nat} {w w' : World} {v : Value} {ob : Nat} {l : List Tok} (h : Ts w v ob l) (he : Ext X w w') (hx : ob ∉ X) : Ts w' v ob l := Sl.ext h he hx
theorem Ts.shape {w : World} {v : Value} {ob : Nat} {l : List Tok} (h : Ts w v ob l) : ∃ a cap, v = .slice a l.length cap := by
  rcases h.2 with ⟨rfl, h2⟩ | ⟨off, sp, cap, rfl, _⟩
  · exact ⟨none, 0, by rw [h2]⟩
  · exact ⟨_, _, rfl⟩
theorem Ts.nil (w : World) (ob : Nat) : Ts w (.slice none 0 0) ob [] := Sl.nil w ob 4
theorem Ts.at {w : World} {a : Option Addr} {n c ob : Nat} {l : List Tok} (h : Ts w (.slice a n c) ob l) (k : Nat) (hk : k < l.length) :
    ∃ o K P S U, a = some ⟨ob, o, none⟩ ∧ l[k]? = some ⟨K, P, S, U⟩ ∧ w.cell? ⟨ob, o + k * 4, none⟩ = some (.int .i64 K) ∧ w.cell? ⟨ob, o + k * 4 + 1, none⟩ = some (.int .i64 P) ∧ w.cell? ⟨ob, o + k * 4 + 2, none⟩ = some (.string S) ∧ w.cell? ⟨ob, o + k * 4 + 3, none⟩ = some (.int .u64 U) := by
  rcases h.2 with ⟨h1, h2⟩ | ⟨off, sp, cap, h1, _, _, hsp, h3⟩
  · simp only [Value.slice.injEq] at h1; omega
  · simp only [Value.slice.injEq] at h1
    obtain ⟨rfl, rfl, rfl⟩ := h1
    obtain rfl : sp = none := by rcases hsp with h | h; omega; exact h
    have hx : l[k]? = some l[k] := List.getElem?_eq_getElem hk
    have hr := trows_at l k _ hx
    exact ⟨off, l[k].k, l[k].a, l[k].s, l[k].n, rfl, hx, h3 (k * 4 + 0) _ (hr 0 (by decide)), h3 (k * 4 + 1) _ (hr 1 (by decide)), h3 (k * 4 + 2) _ (hr 2 (by decide)), h3 (k * 4 + 3) _ (hr 3 (by decide))⟩
/-- a list literal, just made -/
theorem Ts.lit (w : World) (l : List Tok) (e : TypeId) (hl : l.length ≤ 1000) : Ts (w.alloc (.cells (trows l).toArray e)) (.slice (some ⟨w.heap.size, 0, none⟩) l.length l.length) w.heap.size l :=
  Sl.lit w (trows l) e 4 l.length (trows_length l) (by unfold maxLen; omega)

/-- the block b holds the token -/
def TB (w : World) (b : Nat) (k a : Int) (s : ByteArray) (n : Int) : Prop := w.heap[b]? = some (.cells #[.int .i64 k, .int .i64 a, .string s, .int .u64 n] 29 (0, 0))
theorem heap_new (w : World) (o : Obj) : (w.alloc o).heap[w.heap.size]? = some o := by
  show (w.heap.push o)[w.heap.size]? = some o
  simp
theorem TB.new (w : World) (k a : Int) (s : ByteArray) (n : Int) : TB (w.alloc (.cells #[.int .i64 k, .int .i64 a, .string s, .int .u64 n] 29)) w.heap.size k a s n := heap_new _ _
theorem TB.ext {X : List Nat} {w w' : World} {b : Nat} {k a n : Int} {s : ByteArray} (h : TB w b k a s n) (he : Ext X w w') (hx : b ∉ X) : TB w' b k a s n := he.heap h hx
theorem TB.c4 {w : World} {b : Nat} {k a n : Int} {s : ByteArray} (h : TB w b k a s n) : w.cell? ⟨b, 0, none⟩ = some (.int .i64 k) ∧ w.cell? ⟨b, 1, none⟩ = some (.int .i64 a) ∧ w.cell? ⟨b, 2, none⟩ = some (.string s) ∧ w.cell? ⟨b, 3, none⟩ = some (.int .u64 n) := ⟨cell_of_heap h 0, cell_of_heap h 1, cell_of_heap h 2, cell_of_heap h 3⟩
theorem TB.frz {w : World} {b : Nat} {k a n : Int} {s : ByteArray} (h : TB w b k a s n) (i : Nat) : w.frozen? ⟨b, i, none⟩ = false := frozen_of_heap h i
theorem TB.lt {w : World} {b : Nat} {k a n : Int} {s : ByteArray} (h : TB w b k a s n) : b < w.heap.size := size_heap h
theorem TB.place {w : World} {b : Nat} {k a n : Int} {s : ByteArray} (h : TB w b k a s n) (p : Int) : TB (w.setCell ⟨b, 1, none⟩ (.int .i64 p)) b k p s n := by
  have := set_cell_heap h 1 (.int .i64 p)
  simpa [TB] using this
theorem token_info : (Tryz.prog.info? 29).map (·.size) = some 4 := by kernel_rfl
theorem at_store_T {P : Program} {ops : Array Oper} {rest : List Oper} {a : Act} {w : World} {Q : Exit → Act → World → Prop} {dst : Option Tmp} {x y : Operand} {ty : TypeId} {pos : String} {after : Array Edge} {g : Option (Nat × Bool)}
    (h : wpList P ops Q ({ dst, op := .store 29 x y, type := ty, pos, after, guard := g } :: rest) a w) :
    wpList P ops Q ({ dst, op := .store 29 x y, type := ty, pos, after, guard := g } :: rest) a w := h
theorem wpList_store_T {ops : Array Oper} {rest : List Oper} {o : Oper} {a : Act} {w : World} {Q : Exit → Act → World → Prop} (hgd : o.guard = none) (x y : Operand) (ho : o.op = .store 29 x y)
    {b : Nat} {k p n : Int} {s : ByteArray} {k0 p0 n0 : Int} {s0 : ByteArray} (hx : a.eval x = .pointer (some ⟨b, 0, none⟩)) (hy : a.eval y = TV k p s n) (hb : TB w b k0 p0 s0 n0)
    (h : ∀ w', TB w' b k p s n → Ext [b] w w' → wpList Tryz.prog ops Q rest (a.put o.dst undef) w') : wpList Tryz.prog ops Q (o :: rest) a w := by
  refine wpList_store_row hgd _ x y ho b _ hx hy 29 _ hb token_info rfl (by simp [Value.oneCell']) (h _ ?_ ⟨rfl, rfl, rfl, by simp [World.setRow], fun k hk hx => setRow_other w b k _ (by simpa using hx)⟩)
  exact setRow_heap w b _ _ 29 (0, 0) hb
/-- the end of a function with a token and a number -/
theorem ret_T {fn : Func} {R : Ending → World → Prop} {a : Act} {w : World} {p q : Tmp} {b : Nat} {k c n : Int} {s : ByteArray} (hres : fn.results = #[.cell p 29, .tmp q]) (hp : a.tmps.getD p undef = .pointer (some ⟨b, 0, none⟩)) (hb : TB w b k c s n) (hdf : a.defers = [])
    (hR : R (.returned (.tuple #[TV k c s n, a.tmps.getD q undef])) w) : bodyPost Tryz.prog fn R .ret a w :=
  ret_cell_tmp (t := 29) (cs := [.int .i64 k, .int .i64 c, .string s, .int .u64 n]) hres hp hb Tryz.underlying29 rfl token_info hdf hR

/-! ## the package-level variables -/
def wordsV : Array Value := (wordsL.map fun x => Value.string (B x)).toArray
def signsV : Array Value := (signsL.map fun x => Value.string (B x)).toArray
structure Glob (w : World) : Prop where
  words : ∃ t fr, w.heap[(1 : Nat)]? = some (.cells wordsV t fr)
  signs : ∃ t fr, w.heap[(0 : Nat)]? = some (.cells signsV t fr)
  pow : Lib.TabIs Tryz.prog w "internal/strconv.uint64pow10" .u64 Lib.pow10Tab
  esyn : ∃ te pe, w.cell? ⟨7, 0, none⟩ = some (.iface te pe)
  erng : ∃ te pe, w.cell? ⟨8, 0, none⟩ = some (.iface te pe)
  mlen : ∃ m, w.cell? ⟨3, 0, none⟩ = some (.int .i64 m)
  size : 2 < w.heap.size
theorem Glob.ext {w w' : World} (h : Glob w) (e : Ext [] w w') : Glob w' where
  words := by obtain ⟨a, b, c⟩ := h.words; exact ⟨a, b, e.heap c (by simp)⟩
  signs := by obtain ⟨a, b, c⟩ := h.signs; exact ⟨a, b, e.heap c (by simp)⟩
  pow := by
    have hp := h.pow
    unfold Lib.TabIs World.var? at *
    rw [show Tryz.prog.globalNamed "internal/strconv.uint64pow10" = some 2 by kernel_rfl] at hp ⊢
    simp only [Option.bind_some] at hp ⊢
    rw [e.block _ h.size (by simp)]
    exact hp
  esyn := by obtain ⟨a, b, c⟩ := h.esyn; exact ⟨a, b, e.read c (by simp)⟩
  erng := by obtain ⟨a, b, c⟩ := h.erng; exact ⟨a, b, e.read c (by simp)⟩
  mlen := by obtain ⟨a, c⟩ := h.mlen; exact ⟨a, e.read c (by simp)⟩
  size := Nat.lt_of_lt_of_le h.size e.size

end Go.Proofs.YtbenfgkomphlfaaGreatDoor
