import Derived.WalkKit
import Derived.WalkSpells
import Derived.WalkLawsBesides
import Derived.Deep.QuietTactic
import Derived.BigQuiet
import Derived.Lib.Hide
import Derived.Laws.AppendOwnNone
import Derived.Laws.CopyOwn
namespace Go.Proofs.Ytpdfmeaemlgniaa
open Go.RowKit
set_option linter.unusedVariables false

/-! ## Worlds -/

/-- w' is w but for the blocks of X, and for new ones -/
structure Ext (X : List Nat) (w w' : World) : Prop where
  os : w'.os = w.os
  tape : w'.tape = w.tape
  output : w'.output = w.output
  size : w.heap.size ≤ w'.heap.size
  block : ∀ k, k < w.heap.size → k ∉ X → w'.heap[k]? = w.heap[k]?

theorem Ext.refl (X : List Nat) (w : World) : Ext X w w := ⟨rfl, rfl, rfl, Nat.le_refl _, fun _ _ _ => rfl⟩
theorem Ext.trans {X : List Nat} {a b c : World} (h : Ext X a b) (k : Ext X b c) : Ext X a c :=
  ⟨k.os.trans h.os, k.tape.trans h.tape, k.output.trans h.output, Nat.le_trans h.size k.size, fun i hi hx => (k.block i (Nat.lt_of_lt_of_le hi h.size) hx).trans (h.block i hi hx)⟩
theorem Ext.mono {X Y : List Nat} {w w' : World} (h : Ext X w w') (hs : ∀ k, k < w.heap.size → k ∈ X → k ∈ Y) : Ext Y w w' :=
  ⟨h.os, h.tape, h.output, h.size, fun k hk hx => h.block k hk fun m => hx (hs k hk m)⟩
theorem Ext.drew {X : List Nat} {a w : World} (h : Ext X a w) : Ext X a w.drew := ⟨h.os, h.tape, h.output, h.size, h.block⟩
theorem drewN_heap (w : World) (n : Nat) : (w.drewN n).heap = w.heap := by
  rfl
theorem Ext.drewN {X : List Nat} {a w : World} (h : Ext X a w) (n : Nat) : Ext X a (w.drewN n) := ⟨h.os, h.tape, h.output, h.size, h.block⟩
theorem Ext.alloc {X : List Nat} {a w : World} (h : Ext X a w) (o : Obj) : Ext X a (w.alloc o) :=
  h.trans ⟨rfl, rfl, rfl, by simp, fun k hk _ => Below.heap_alloc _ _ _ (by omega)⟩
theorem Ext.setCell {X : List Nat} {a w : World} (h : Ext X a w) {p : Addr} (hp : p.block ∈ X ∨ a.heap.size ≤ p.block) (u : Value) : Ext X a (w.setCell p u) :=
  ⟨h.os, h.tape, h.output, by simpa using h.size, fun k hk hx => by
    rw [Below.heap_setCell _ _ _ _ (by rintro rfl; rcases hp with hp | hp; exact hx hp; omega)]; exact h.block k hk hx⟩
theorem Ext.cell {X : List Nat} {w w' : World} (h : Ext X w w') {p : Addr} (hp : p.block < w.heap.size) (hx : p.block ∉ X) : w'.cell? p = w.cell? p :=
  World.cell?_of_block (w := w) (h.block p.block hp hx)
theorem Ext.read {X : List Nat} {w w' : World} (h : Ext X w w') {p : Addr} {u : Value} (hp : w.cell? p = some u) (hx : p.block ∉ X) : w'.cell? p = some u :=
  (h.cell (World.block_lt_of_cell? _ _ hp) hx).trans hp
theorem Ext.below {w w' : World} (h : Ext [] w w') : Below w.heap.size w w' := ⟨h.os, h.tape, h.output, h.size, fun k hk => h.block k hk (by simp)⟩
theorem Ext.ofBelow {w w' : World} (h : Below w.heap.size w w') : Ext [] w w' := ⟨h.os, h.tape, h.output, h.size, fun k hk _ => h.block k hk⟩
theorem Ext.ofGrown {w w' : World} {r : Option Nat} (h : w.grownBy w' r) : Ext r.toList w w' :=
  ⟨h.os, h.tape, h.output, h.size, fun k hk hx => h.block k hk (by rintro rfl; simp at hx)⟩
/-- what was new in the middle may be written behind it -/
theorem Ext.trans' {X Y : List Nat} {a b c : World} (h : Ext X a b) (k : Ext Y b c) (hy : ∀ i ∈ Y, i ∈ X ∨ a.heap.size ≤ i) : Ext X a c :=
  ⟨k.os.trans h.os, k.tape.trans h.tape, k.output.trans h.output, Nat.le_trans h.size k.size, fun i hi hx =>
    (k.block i (Nat.lt_of_lt_of_le hi h.size) (fun m => by rcases hy i m with h' | h'; exact hx h'; omega)).trans (h.block i hi hx)⟩
theorem Ext.heap {X : List Nat} {w w' : World} (h : Ext X w w') {k : Nat} {o : Obj} (hk : w.heap[k]? = some o) (hx : k ∉ X) : w'.heap[k]? = some o :=
  (h.block k (Array.getElem?_eq_some_iff.1 hk).1 hx).trans hk

theorem cell_of_heap {w : World} {b : Nat} {cs : Array Value} {t : TypeId} (h : w.heap[b]? = some (.cells cs t (0, 0))) (i : Nat) : w.cell? ⟨b, i, none⟩ = cs[i]? := by
  simp [World.cell?, h]
theorem frozen_of_heap {w : World} {b : Nat} {cs : Array Value} {t : TypeId} (h : w.heap[b]? = some (.cells cs t (0, 0))) (i : Nat) : w.frozen? ⟨b, i, none⟩ = false := by
  simp [World.frozen?, h]
theorem set_cell_heap {w : World} {b : Nat} {cs : Array Value} {t : TypeId} (h : w.heap[b]? = some (.cells cs t (0, 0))) (i : Nat) (v : Value) :
    (w.setCell ⟨b, i, none⟩ v).heap[b]? = some (.cells (cs.setIfInBounds i v) t (0, 0)) := by
  simp [World.setCell, Array.getElem?_modify, h]
theorem size_heap {w : World} {b : Nat} {o : Obj} (h : w.heap[b]? = some o) : b < w.heap.size := (Array.getElem?_eq_some_iff.1 h).1

theorem add_off (b off j : Nat) : (⟨b, off, none⟩ : Addr).add j = ⟨b, off + j, none⟩ := by unfold Addr.add; split <;> simp_all

/-! ## Slices -/

/-- v is a slice of n elements, of 'size' cells each, that reads as the cells xs, all of them in block ob (a slice of none may have its address anywhere) -/
def Sl (w : World) (v : Value) (ob size n : Nat) (xs : List Value) : Prop :=
  xs.length = n * size ∧ ((v = .slice none 0 0 ∧ n = 0) ∨
    ∃ off sp cap, v = .slice (some ⟨ob, off, sp⟩) n cap ∧ n ≤ cap ∧ cap ≤ maxLen ∧ (n = 0 ∨ sp = none) ∧ ∀ j u, xs[j]? = some u → w.cell? ⟨ob, off + j, none⟩ = some u)

theorem Sl.nil (w : World) (ob size : Nat) : Sl w (.slice none 0 0) ob size 0 [] := ⟨by simp, .inl ⟨rfl, rfl⟩⟩
theorem Sl.ext {X : List Nat} {w w' : World} {v : Value} {ob size n : Nat} {xs : List Value} (h : Sl w v ob size n xs) (he : Ext X w w') (hx : ob ∉ X) : Sl w' v ob size n xs := by
  refine ⟨h.1, ?_⟩
  rcases h.2 with h2 | ⟨off, sp, cap, rfl, h1, h2, hsp, h3⟩
  · exact .inl h2
  · exact .inr ⟨off, sp, cap, rfl, h1, h2, hsp, fun j u hu => he.read (h3 j u hu) hx⟩
theorem Sl.of_own {w : World} {base e size n : Nat} {v : Value} {xs : List Value} (h : w.ownsRow base e size v n xs) : ∃ ob, Sl w v ob size n xs ∧ (v = .slice none 0 0 ∨ base ≤ ob ∧ v.ownBlock = some ob) := by
  rcases h.2 with ⟨rfl, rfl⟩ | ⟨g, cap, cur, rfl, hb, hg, hn, hc, hs, hx⟩
  · exact ⟨base, ⟨h.1, .inl ⟨rfl, rfl⟩⟩, .inl rfl⟩
  · refine ⟨g, ⟨h.1, .inr ⟨0, none, cap, rfl, hn, hc, .inr rfl, fun j u hu => ?_⟩⟩, .inr ⟨hb, rfl⟩⟩
    have := h.cells (g := g) rfl j u hu
    simpa [add_off] using this

structure SliceTy (P : Program) (t e : TypeId) (size bytes : Nat) (z : Value) : Prop where
  und : P.underlying t = some (.slice e)
  info : ∃ i, P.info? e = some i ∧ i.zero = some z ∧ i.size = size ∧ i.bytes = bytes
  zc : z.cells.size = size
  pos : 0 < size

theorem SliceTy.mk' {P : Program} {t e : TypeId} {size bytes : Nat} {z : Value} (h1 : P.underlying t = some (.slice e)) (h2 : (P.info? e).map (fun i => (i.zero, i.size, i.bytes)) = some (some z, size, bytes)) (h3 : z.cells.size = size) (h4 : 0 < size) : SliceTy P t e size bytes z :=
  ⟨h1, info_parts h2, h3, h4⟩

/-- append(s, x...), s the call's own, x whatever slice -/
theorem wpList_append_sl {P : Program} {w : World} {ops : Array Oper} {rest : List Oper} {o : Oper} {a : Act} {Q : Exit → Act → World → Prop}
    {t e : TypeId} {size bytes : Nat} {z : Value} (T : SliceTy P t e size bytes z) (hgd : o.guard = none) (s x : Operand)
    (ho : o.op = .call { callee := .builtin .append, args := #[s, x], argTypes := #[t, t] })
    {base n m ob : Nat} {v vx : Value} {xs news : List Value} (hs : a.eval s = v) (hown : w.ownsRow base e size v n xs) (hx : a.eval x = vx) (hsl : Sl w vx ob size m news) (h1 : ∀ u ∈ news, u.oneCell' = true)
    (h63 : n + m ≤ maxLen) (hbytes : (n + m) * bytes ≤ 140737488355328) (hbase : base ≤ w.heap.size)
    (h : ∀ v' w', w'.ownsRow base e size v' (n + m) (xs ++ news) → Ext v.ownBlock.toList w w' → wpList P ops Q rest (a.put o.dst v') w') : wpList P ops Q (o :: rest) a w := by
  obtain ⟨i, i1, i2, i3, i4⟩ := T.info
  obtain ⟨hl, hsl⟩ := hsl
  rcases hsl with ⟨rfl, rfl⟩ | ⟨off, sp, cap, rfl, hc1, hc2, hsp, hc⟩
  · obtain rfl : news = [] := List.eq_nil_of_length_eq_zero (by simpa using hl)
    refine wpList_append_own_none hgd s x t ho base e i size T.und i1 v n xs hs hown hx (h _ _ (by simpa using hown) (Ext.refl _ _))
  · refine wpList_append_own (w := w) hgd s x t ho base e i z size bytes T.und i1 i2 i3 i4 T.zc T.pos v n xs hs hown ⟨ob, off, sp⟩ m cap news hx hl (fun j u hu => by
        rcases hsp with rfl | rfl
        · have : news = [] := List.eq_nil_of_length_eq_zero (by simpa using hl)
          subst this; simp at hu
        · simpa only [add_off] using hc j u hu) h1 h63 hbytes hbase
      fun v' w' r1 r2 _ => h v' w' r1 (Ext.ofGrown r2)

/-- the block b holds the cells l, of type e; nothing of it is frozen -/
def Blk (w : World) (b : Nat) (e : TypeId) (l : List Value) : Prop := w.heap[b]? = some (.cells l.toArray e (0, 0))
theorem Blk.cell {w : World} {b : Nat} {e : TypeId} {l : List Value} (h : Blk w b e l) (i : Nat) : w.cell? ⟨b, i, none⟩ = l[i]? := by
  rw [cell_of_heap h]; simp
theorem Blk.frozen {w : World} {b : Nat} {e : TypeId} {l : List Value} (h : Blk w b e l) (i : Nat) : w.frozen? ⟨b, i, none⟩ = false := frozen_of_heap h i
theorem Blk.ext {X : List Nat} {w w' : World} {b : Nat} {e : TypeId} {l : List Value} (h : Blk w b e l) (he : Ext X w w') (hx : b ∉ X) : Blk w' b e l := he.heap h hx
theorem Blk.set {w : World} {b : Nat} {e : TypeId} {l : List Value} (h : Blk w b e l) (i : Nat) (v : Value) : Blk (w.setCell ⟨b, i, none⟩ v) b e (l.set i v) := by
  have := set_cell_heap h i v
  unfold Blk; rw [this]; simp
theorem Blk.lt {w : World} {b : Nat} {e : TypeId} {l : List Value} (h : Blk w b e l) : b < w.heap.size := size_heap h
theorem Blk.drewN {w : World} {b : Nat} {e : TypeId} {l : List Value} (h : Blk w b e l) (n : Nat) : Blk (w.drewN n) b e l := h
theorem Blk.drew {w : World} {b : Nat} {e : TypeId} {l : List Value} (h : Blk w b e l) : Blk w.drew b e l := h
theorem Blk.new (w : World) (l : List Value) (e : TypeId) : Blk (w.alloc (.cells l.toArray e)) w.heap.size e l := by
  show (w.heap.push _)[w.heap.size]? = _
  simp
/-- a slice from the head of a block -/
theorem Blk.sl {w : World} {b : Nat} {e : TypeId} {l : List Value} (h : Blk w b e l) {size n cap : Nat} (hl : l.length = cap * size) (hn : n ≤ cap) (hc : cap ≤ maxLen) :
    Sl w (.slice (some ⟨b, 0, none⟩) n cap) b size n (l.take (n * size)) := by
  refine ⟨by have := Nat.mul_le_mul_right size hn; simp; omega, .inr ⟨0, none, cap, rfl, hn, hc, .inr rfl, fun j u hu => ?_⟩⟩
  rw [List.getElem?_take] at hu
  split at hu
  · simpa using (h.cell j).trans hu
  · cases hu
theorem Blk.owns {w : World} {b : Nat} {e : TypeId} {l : List Value} (h : Blk w b e l) {base size n cap : Nat} (hb : base ≤ b) (hl : l.length = cap * size) (hn : n ≤ cap) (hc : cap ≤ maxLen) :
    w.ownsRow base e size (.slice (some ⟨b, 0, none⟩) n cap) n (l.take (n * size)) :=
  ⟨by have := Nat.mul_le_mul_right size hn; simp; omega, .inr ⟨b, cap, l.toArray, rfl, hb, h, hn, hc, by simpa using hl, by simp⟩⟩

/-- make([]T, n) -/
theorem wpList_make_sl {P : Program} {w : World} {ops : Array Oper} {rest : List Oper} {o : Oper} {a : Act} {Q : Exit → Act → World → Prop}
    {t e : TypeId} {bytes : Nat} {z : Value} (T : SliceTy P t e 1 bytes z) (hz1 : z.cells = #[z]) (hg : o.guard = none) (l c : Operand) (hop : o.op = Op.makeSlice t l c)
    {kl kc : IntKind} {L C : Int} (n : Nat) (hl : a.eval l = .int kl L) (hc : a.eval c = .int kc C) (hL : L = (n : Int)) (hC : C = (n : Int)) (b2 : bytes * n ≤ 281474976710656) (b3 : n ≤ maxLen)
    (hK : ∀ w', Blk w' w.heap.size e (List.replicate n z) → Ext [] w w' → wpList P ops Q rest (a.put o.dst (.slice (some ⟨w.heap.size, 0, none⟩) n n)) w') :
    wpList P ops Q (o :: rest) a w := by
  obtain ⟨i, i1, i2, i3, i4⟩ := T.info
  refine wpList_make_full w hg l c t hop w.heap.size e i z 1 T.und i1 i2 i3 kl kc L C n hl hc hL hC (by rw [i4]; exact b2) b3 (Nat.le_refl _) fun w' h1 h2 => hK w' ?_ (Ext.ofGrown h2)
  rcases h1.2 with ⟨h, _⟩ | ⟨g, cap, cur, h, _, hg, _, _, hs, hx⟩
  · simp at h
  · simp only [Value.slice.injEq, Option.some.injEq, Addr.mk.injEq, true_and, and_true] at h
    obtain ⟨rfl, rfl⟩ := h
    unfold Blk
    rw [hg, hz1, Nat.mul_one, toList_madeCells_one] at *
    rw [List.take_of_length_le (by simp; omega)] at hx
    rw [← hx]

/-- copy(d, s), d a whole block of the call's own, s whatever slice that fits -/
theorem wpList_copy_sl {P : Program} {w : World} {ops : Array Oper} {rest : List Oper} {o : Oper} {a : Act} {Q : Exit → Act → World → Prop}
    {t e : TypeId} {bytes : Nat} {z : Value} (T : SliceTy P t e 1 bytes z) (hgd : o.guard = none) (d s : Operand)
    (ho : o.op = .call { callee := .builtin .copy, args := #[d, s], argTypes := #[t, t] })
    {g n cap m ob : Nat} {cur news : List Value} {vx : Value} (hd : a.eval d = .slice (some ⟨g, 0, none⟩) n cap) (hb : Blk w g e cur) (hx : a.eval s = vx) (hsl : Sl w vx ob 1 m news) (h1 : ∀ u ∈ news, u.oneCell' = true)
    (hmn : m ≤ n) (hn : n ≤ cur.length)
    (h : ∀ w', Blk w' g e (news ++ cur.drop m) → Ext [g] w w' → wpList P ops Q rest (a.put o.dst (goInt m)) w') : wpList P ops Q (o :: rest) a w := by
  obtain ⟨i, i1, i2, i3, i4⟩ := T.info
  obtain ⟨hl, hsl⟩ := hsl
  rw [Nat.mul_one] at hl
  have hsz : (P.info? e).map (·.size) = some 1 := by rw [i1]; simp [i3]
  rcases hsl with ⟨rfl, rfl⟩ | ⟨off, sp, c, rfl, hc1, hc2, hsp, hc⟩
  · obtain rfl : news = [] := List.eq_nil_of_length_eq_zero (by simpa using hl)
    exact wpList_copy_nothing hgd d s t t ho e T.und hsz _ _ _ _ _ _ hd hx (Nat.zero_min _) (h w (by simpa using hb) (Ext.refl _ _))
  · subst hl
    by_cases h0 : news.length = 0
    · obtain rfl : news = [] := List.eq_nil_of_length_eq_zero h0
      exact wpList_copy_nothing hgd d s t t ho e T.und hsz _ _ _ _ _ _ hd hx (Nat.zero_min _) (h w (by simpa using hb) (Ext.refl _ _))
    · obtain rfl : sp = none := by rcases hsp with h | h; exact absurd h h0; exact h
      refine wpList_copy_own hgd d s t t ho e T.und hsz g 0 n cap ⟨ob, off, none⟩ _ c hd hx cur.toArray e hb news (by simp [Nat.min_eq_left hmn]) (fun j u hu => by simpa only [add_off] using hc j u hu) (by simp; omega) h1 ?_
      refine h _ ?_ ⟨rfl, rfl, rfl, by simp [World.setRow], fun k hk hx => setRow_other w g k _ (by simpa using hx)⟩
      have := setRow_heap w g cur.toArray (news ++ cur.drop news.length).toArray e (0, 0) hb
      simpa [Blk] using this

/-- a guard for arms: the operation that stands next is a copy -/
theorem at_copy {P : Program} {ops : Array Oper} {rest : List Oper} {a : Act} {w : World} {Q : Exit → Act → World → Prop} {dst : Option Tmp} {xs : Array Operand} {ts : Array TypeId} {ty : TypeId} {pos : String} {after : Array Edge} {g : Option (Nat × Bool)}
    (h : wpList P ops Q ({ dst, op := .call { callee := .builtin .copy, args := xs, argTypes := ts }, type := ty, pos, after, guard := g } :: rest) a w) :
    wpList P ops Q ({ dst, op := .call { callee := .builtin .copy, args := xs, argTypes := ts }, type := ty, pos, after, guard := g } :: rest) a w := h

theorem ret_int {k : IntKind} {a b : Int} (h : a = b) : Ending.returned (.int k a) = .returned (.int k b) := by rw [h]
theorem ret_bool {a b : Bool} (h : a = b) : Ending.returned (.bool a) = .returned (.bool b) := by rw [h]

theorem drewN_drewN (w : World) (a b : Nat) : (w.drewN a).drewN b = w.drewN (a + b) := by
  simp [World.drewN, Nat.add_assoc]

/-- a slice literal of one element of one cell, just made -/
theorem Sl.one (w : World) (u : Value) (e : TypeId) : Sl (w.alloc (.cells #[u] e)) (.slice (some ⟨w.heap.size, 0, none⟩) 1 1) w.heap.size 1 1 [u] :=
  (Blk.new w [u] e).sl (size := 1) (n := 1) (cap := 1) rfl (Nat.le_refl _) (by decide)
/-- a slice literal, just made -/
theorem Sl.lit (w : World) (l : List Value) (e : TypeId) (size n : Nat) (hl : l.length = n * size) (hn : n ≤ maxLen) : Sl (w.alloc (.cells l.toArray e)) (.slice (some ⟨w.heap.size, 0, none⟩) n n) w.heap.size size n l := by
  have := (Blk.new w l e).sl (size := size) (n := n) (cap := n) hl (Nat.le_refl _) hn
  rwa [List.take_of_length_le (by omega)] at this
/-- a block of the call's own stays below what it owned -/
theorem own_ext {X : List Nat} {w w' : World} {base e size n : Nat} {v : Value} {xs : List Value} (h : w.ownsRow base e size v n xs) (he : Ext X w w') (hx : ∀ k, v.ownBlock = some k → k ∉ X) : w'.ownsRow base e size v n xs := by
  refine ⟨h.1, ?_⟩
  rcases h.2 with h2 | ⟨g, cap, cur, rfl, h1, h2, h3⟩
  · exact .inl h2
  · exact .inr ⟨g, cap, cur, rfl, h1, he.heap h2 (hx g rfl), h3⟩
theorem own_ge {w : World} {base e size n : Nat} {v : Value} {xs : List Value} (h : w.ownsRow base e size v n xs) : ∀ i ∈ v.ownBlock.toList, base ≤ i := fun i hi => (h.lt i (by simpa using hi)).1

/-- as rules for the walk: what is old reads as it did -/
theorem Ext.rules {W w1 : World} (h : Ext [] W w1) : (∀ b o, b < W.heap.size → w1.cell? ⟨b, o, none⟩ = W.cell? ⟨b, o, none⟩) ∧ (∀ b o, b < W.heap.size → w1.frozen? ⟨b, o, none⟩ = W.frozen? ⟨b, o, none⟩) :=
  ⟨fun b o hb => h.cell (p := ⟨b, o, none⟩) hb (by simp), fun b o hb => World.frozen?_of_block (w := W) (h.block b hb (by simp))⟩

theorem Blk.other {w : World} {b : Nat} {e : TypeId} {l : List Value} (h : Blk w b e l) (p : Addr) (hp : b ≠ p.block) (v : Value) : Blk (w.setCell p v) b e l := by
  unfold Blk at *; rw [Below.heap_setCell _ _ _ _ hp]; exact h

/-- the end of a function whose first result is a struct in memory, the second a slot -/
theorem ret_cell_tmp {P : Program} {fn : Func} {R : Ending → World → Prop} {a : Act} {w : World} {p u : Tmp} {ty t : TypeId} {g : Nat} {cs : List Value} {d : TypeDesc}
    (hres : fn.results = #[.cell p ty, .tmp u]) (hp : a.tmps.getD p undef = .pointer (some ⟨g, 0, none⟩)) (hg : Blk w g t cs) (hu : P.underlying ty = some d)
    (hd : (match d with | .struct _ | .array _ _ => true | _ => false) = true) (hi : (P.info? ty).map (·.size) = some cs.length) (hdf : a.defers = [])
    (hR : R (.returned (.tuple #[.agg cs.toArray, a.tmps.getD u undef])) w) : bodyPost P fn R .ret a w := by
  refine bodyPost_ret (v := .tuple #[.agg cs.toArray, a.tmps.getD u undef]) ?_ hdf hR
  rw [results_cell_tmp hres, hp]
  have := run_loadVar_row (P := P) w g t ty cs.toArray (0, 0) d hg hu hd (by simpa using hi)
  simp [asAddr, Result.andThen, this]

end Go.Proofs.Ytpdfmeaemlgniaa
