
/-
  A catalog's lines: Print.
-/
import Derived.Test.YtjmfcjidhmaibaaGreatDoorCatO
namespace Go.Proofs.YtjmfcjidhmaibaaGreatDoor
open Go.RowKit
open Go.Lib hiding intOf
set_option linter.unusedVariables false

def printC (l : List Tab) : List UInt8 := l.flatMap lineB
theorem IsB.keep {T e : TypeId} {base b : Nat} {bs : List Value} {w w' : World} (h : Lib.IsBuilder T e base b bs w) (x : Ext [] w w') : Lib.IsBuilder T e base b bs w' := by
  rcases h with ⟨h1, v, h2, h3, h4⟩ | ⟨h1, v, h2, h3, h4⟩
  · exact .inl ⟨h1, v, x.heap h2 (by simp), own_ext h3 x (by simp), h4⟩
  · exact .inr ⟨h1, v, x.heap h2 (by simp), own_ext h3 x (by simp), h4⟩
theorem Ext.far {w0 w w' : World} (h : Ext [] w0 w) (b : Below w0.heap.size w w') : Ext [] w0 w' :=
  ⟨b.os.trans h.os, b.tape.trans h.tape, b.output.trans h.output, Nat.le_trans h.size b.size, fun k hk hx => (b.block k hk).trans (h.block k hk hx)⟩
theorem lineB_len {t : Tab} (h : isTab t = true) : (lineB t).length ≤ 301 := by
  have := tab_line_len h
  unfold lineB
  simp; omega
theorem print_len : ∀ (l : List Tab), (∀ t ∈ l, isTab t = true) → (printC l).length ≤ 301 * l.length
  | [], _ => by simp [printC]
  | t :: l, h => by
    have h1 := print_len l (fun u hu => h u (by simp [hu]))
    have h2 := lineB_len (h t (by simp))
    unfold printC at *
    rw [List.flatMap_cons, List.length_append, List.length_cons]
    omega
theorem printC_succ {l : List Tab} {k : Nat} {t : Tab} (h : l[k]? = some t) : printC (l.take (k + 1)) = printC (l.take k) ++ lineB t := by
  unfold printC
  rw [List.take_add_one, h, List.flatMap_append]
  simp
set_option maxRecDepth 100000 in
set_option maxHeartbeats 2000000 in
theorem Print_ok (w : World) (v : Value) (l : List Tab) (hC : Ts w v l) (hG : Glob w) (hb : TabsOK l) (hI : isCat l = true) :
    Calls Tryz.prog 6 #[KV v] w fun e w' => e = .returned (.tuple #[.string (B (printC l)), .int .i64 0]) ∧ Ext [] w w' := by
  obtain ⟨a, c, rfl⟩ := hC.shape
  have e1 := (Ext.refl [] w).alloc (.cells #[.slice a l.length c] 24)
  have c0 := new_cells w [.slice a l.length c] 24 0 _ rfl
  have hic := isCatalog_any _ _ l (hC.ext e1) (hG.ext e1) hb
  rw [hI] at hic
  have hts := cat_tab hI
  have hl4 := cat_len hI
  go_enter Tryz.func6, Tryz.ntmps6
  go_upto_region 1 with (fail)
  generalize w.alloc (.cells #[.slice a l.length c] 24) = W at *
  generalize w.heap.size = b at *
  go_wp2_with (go_at_call 17; (with_reducible refine hic.mono ?_); rintro e u1 ⟨rfl, x1⟩; have c1 := cells_ext x1 c0; have c2 := cells_ext ((Ext.refl [] u1).alloc (.cells #[.pointer none, .slice none 0 0] 49)) c1)
  go_loopw [13] (fun i wr => ∃ k : Nat, k ≤ l.length ∧ i = .int .i64 k ∧ Ext [] u1 wr ∧ Lib.IsBuilder 49 5 u1.heap.size u1.heap.size (Lib.byteCells (printC (l.take k))) wr) (fun i _ => l.length - (intOf i).toNat)
  case atStart => exact ⟨0, by omega, rfl, (Ext.refl [] u1).alloc _, .inl ⟨Nat.le_refl _, _, heap_new u1 _, World.ownsRow_nil _ _ _ _, by simp [Value.ownBlock]⟩⟩
  case round =>
    obtain ⟨k, hk, rfl, hX, hB⟩ := hrel
    have hXw := (e1.trans x1).trans hX
    have hsz := hX.size
    by_cases hlt : k < l.length
    · have hx : l[k]? = some l[k] := List.getElem?_eq_getElem hlt
      obtain ⟨ob, o, a1, m1, a2, m2, rfl, p0, p1, p2, ⟨oc, q1⟩, ok, q2⟩ := (hC.ext hXw).at k _ hx
      have ht := hts _ (List.mem_of_getElem? hx)
      have hs := printC_succ hx
      have hpl := print_len (l.take k) (fun t h => hts t (List.mem_of_mem_take h))
      have hll := lineB_len ht
      generalize l[k] = t at *
      have e2 := (Ext.refl [] wr).alloc (.cells #[.string t.n, .slice a1 t.cols.length m1, .slice a2 t.keys.length m2] 41)
      have lo := fun U (x : Ext [] wr U) => lineOf_any U t a1 m1 a2 m2 oc ok (q1.ext x (by simp)) (q2.ext x (by simp)) ht (hG.ext (hXw.trans x))
      have hBk := fun U (x : Ext [] wr U) => IsB.keep hB x
      have hlen : (Lib.byteCells (printC (l.take k))).length + (B (lineB t)).size ≤ 1000000000 := by
        have h1 : (Lib.byteCells (printC (l.take k))).length = (printC (l.take k)).length := by simp [Lib.byteCells]
        have h2 : (B (lineB t)).size = (lineB t).length := rfl
        rw [List.length_take] at hpl
        rw [h1, h2]
        have : min k l.length ≤ 4 := by omega
        have := Nat.mul_le_mul_left 301 this
        omega
      have HS : Hid (Lib.byteCells (printC (l.take (k + 1))) = Lib.byteCells (printC (l.take k)) ++ Lib.strCells (B (lineB t))) := by
        show _ = _
        rw [hs]
        simp [Lib.byteCells, Lib.strCells, B]
      have hws := fun U (x : Ext [] wr U) => Write_any U u1.heap.size u1.heap.size _ (B (lineB t)) (hBk U x) hlen (Nat.le_trans hsz x.size)
      clear hx hs hpl hll hlen hB hBk ht
      go_wp2_with (first
        | (go_at_call 19; (with_reducible refine (lo _ e2).mono ?_); rintro e u2 ⟨rfl, x2⟩)
        | (go_at_call 18; (with_reducible refine (hws _ (e2.trans x2)).mono ?_); rintro e u3 ⟨rfl, hB3, x3⟩))
      go_roundw
      case rel => exact ⟨k + 1, by omega, by go_num, ((hX.trans e2).trans x2).far x3, .inr (by rw [HS.out]; exact hB3)⟩
      case measure => simp [intOf]; omega
    · obtain rfl : k = l.length := by omega
      rw [List.take_length] at hB
      have hst := BString_any wr _ _ _ hB hsz
      clear hB
      go_wp2_with (go_at_call 20; (with_reducible refine hst.mono ?_); rintro e u2 ⟨rfl, x2⟩)
      go_ret2
      exact ⟨rfl, (e1.trans x1).trans (hX.far x2)⟩
theorem Print_any (w : World) (v : Value) (l : List Tab) (hC : Ts w v l) (hG : Glob w) (hb : TabsOK l) :
    Calls Tryz.prog 6 #[KV v] w fun e w' => e = .returned (.tuple #[.string (B (if isCat l then printC l else [])), .int .i64 (if isCat l then 0 else 210)]) ∧ Ext [] w w' := by
  cases hI : isCat l
  · obtain ⟨a, c, rfl⟩ := hC.shape
    have e1 := (Ext.refl [] w).alloc (.cells #[.slice a l.length c] 24)
    have hic := isCatalog_any _ _ l (hC.ext e1) (hG.ext e1) hb
    rw [hI] at hic
    clear hI
    go_enter Tryz.func6, Tryz.ntmps6
    go_wp2_with (go_at_call 17; (with_reducible refine hic.mono ?_); rintro e u1 ⟨rfl, x1⟩)
    go_ret2
    exact ⟨rfl, e1.trans x1⟩
  · exact Print_ok w v l hC hG hb hI
end Go.Proofs.YtjmfcjidhmaibaaGreatDoor
