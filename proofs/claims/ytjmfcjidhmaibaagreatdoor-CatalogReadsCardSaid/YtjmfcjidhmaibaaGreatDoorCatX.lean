
/-
  over of the laws; what copied wants.
-/
import Derived.Test.YtjmfcjidhmaibaaGreatDoorCatQ
import Derived.Deep.RegionLaw
import Derived.Test.YtjmfcjidhmaibaaGreatDoorCatO
namespace Go.Proofs.YtjmfcjidhmaibaaGreatDoor
open Go.RowKit
open Go.Lib hiding intOf
set_option linter.unusedVariables false

/-- is it more than the laws go through? -/
def overB (l : List Tab) : Bool := decide (20 < l.length) || l.any largeB
set_option maxRecDepth 100000 in
set_option maxHeartbeats 2000000 in
theorem over_any (w : World) (v : Value) (l : List Tab) (hC : Ts w v l) (hl : l.length ≤ maxLen) :
    Calls Tryz.prog 5 #[KV v] w fun e w' => e = .returned (.bool (overB l)) ∧ Ext [] w w' := by
  obtain ⟨a, c, rfl⟩ := hC.shape
  unfold maxLen at hl
  unfold overB
  have hE := (Ext.refl [] w).alloc (.cells #[.slice a l.length c] 24)
  have c0 := new_cells w [.slice a l.length c] 24 0 _ rfl
  by_cases h : l.length ≤ 20
  · have p0 : decide ((20 : Int) < (l.length : Int)) = false := by simp; omega
    rw [show decide (20 < l.length) = false by simp; omega, Bool.false_or]
    go_enter Tryz.func5, Tryz.ntmps5
    go_upto_region 1 with (fail)
    generalize w.alloc (.cells #[.slice a l.length c] 24) = W at *
    generalize w.heap.size = b at *
    go_wp2_with (fail)
    go_loopw [12] (fun i wr => ∃ k : Nat, k ≤ l.length ∧ i = .int .i64 k ∧ Ext [] W wr ∧ Hid ((l.take k).any largeB = false)) (fun i _ => l.length - (intOf i).toNat)
    case atStart => exact ⟨0, by omega, rfl, Ext.refl _ _, by simp [Hid]⟩
    case round =>
      obtain ⟨k, hk, rfl, hX, hS⟩ := hrel
      by_cases hlt : k < l.length
      · have hx : l[k]? = some l[k] := List.getElem?_eq_getElem hlt
        obtain ⟨ob, o, a1, m1, a2, m2, rfl, p0', p1, p2, ⟨oc, q1⟩, ok, q2⟩ := (hC.ext (hE.trans hX)).at k _ hx
        generalize l[k] = t at *
        have e1 := (Ext.refl [] wr).alloc (.cells #[.string t.n, .slice a1 t.cols.length m1, .slice a2 t.keys.length m2] 41)
        have la := fun U (x : Ext [] wr U) => large_any U t a1 m1 a2 m2 oc (q1.ext x (by simp))
        cases hc : largeB t
        · have HS : Hid ((l.take (k + 1)).any largeB = false) := by
            show _ = _
            rw [List.take_add_one, hx, List.any_append, hS.out]
            simp [hc]
          rw [hc] at la
          clear hc hS hx
          go_wp2_with (go_at_call 16; (with_reducible refine (la _ e1).mono ?_); rintro e u1 ⟨rfl, x1⟩)
          go_roundw
          case rel => exact ⟨k + 1, by omega, by go_num, (hX.trans e1).trans x1, HS⟩
          case measure => simp [intOf]; omega
        · have HS : Hid (l.any largeB = true) := by
            show _ = _
            rw [List.any_eq_true]
            exact ⟨_, List.mem_of_getElem? hx, hc⟩
          rw [hc] at la
          clear hc hS hx
          go_wp2_with (go_at_call 16; (with_reducible refine (la _ e1).mono ?_); rintro e u1 ⟨rfl, x1⟩)
          go_ret
          exact ⟨ret_bool HS.out.symm, ((hE.trans hX).trans e1).trans x1⟩
      · have HS : Hid (l.any largeB = false) := by
          obtain rfl : k = l.length := by omega
          have := hS.out
          rw [List.take_length] at this
          exact this
        clear hS
        go_wp2_with (fail)
        go_ret
        exact ⟨ret_bool HS.out.symm, hE.trans hX⟩
  · have p0 : decide ((20 : Int) < (l.length : Int)) = true := by simp; omega
    rw [show decide (20 < l.length) = true by simp; omega, Bool.true_or]
    clear h
    go_enter Tryz.func5, Tryz.ntmps5
    go_upto_region 1 with (fail)
    generalize w.alloc (.cells #[.slice a l.length c] 24) = W at *
    generalize w.heap.size = b at *
    go_wp2_with (fail)
    go_ret
    exact ⟨rfl, hE⟩
/-- the rows rs read as the tables l; their lists lie outside of X, in blocks that are there -/
def RIn (X : List Nat) (w : World) (rs : List Raw) (l : List Tab) : Prop := rs.length = l.length ∧ ∀ (k : Nat) r t, rs[k]? = some r → l[k]? = some t →
  r.n = t.n ∧ (∃ oc, oc ∉ X ∧ oc < w.heap.size ∧ Cs w r.c oc t.cols) ∧ (∃ ok, ok ∉ X ∧ ok < w.heap.size ∧ Is w r.k ok t.keys)
theorem RIn.ris {X : List Nat} {w : World} {rs : List Raw} {l : List Tab} (h : RIn X w rs l) : RIs X w rs l := ⟨h.1, fun k r t h1 h2 => by
  obtain ⟨a, ⟨oc, b1, _, b2⟩, ok, d1, _, d2⟩ := h.2 k r t h1 h2
  exact ⟨a, ⟨oc, b1, b2⟩, ok, d1, d2⟩⟩
theorem RIn.ext {X Y : List Nat} {w w' : World} {rs : List Raw} {l : List Tab} (h : RIn X w rs l) (e : Ext Y w w') (hy : ∀ i ∈ Y, i ∈ X) : RIn X w' rs l := ⟨h.1, fun k r t h1 h2 => by
  obtain ⟨a, ⟨oc, b1, b3, b2⟩, ok, d1, d3, d2⟩ := h.2 k r t h1 h2
  have := e.size
  exact ⟨a, ⟨oc, b1, by omega, b2.ext e (fun hm => b1 (hy _ hm))⟩, ok, d1, by omega, d2.ext e (fun hm => d1 (hy _ hm))⟩⟩
theorem RIn.mono {X Y : List Nat} {w : World} {rs : List Raw} {l : List Tab} (h : RIn X w rs l) (hy : ∀ i ∈ Y, i ∈ X ∨ w.heap.size ≤ i) : RIn Y w rs l := ⟨h.1, fun k r t h1 h2 => by
  obtain ⟨a, ⟨oc, b1, b3, b2⟩, ok, d1, d3, d2⟩ := h.2 k r t h1 h2
  exact ⟨a, ⟨oc, fun hm => by rcases hy _ hm with h | h; exact b1 h; omega, b3, b2⟩, ok, fun hm => by rcases hy _ hm with h | h; exact d1 h; omega, d3, d2⟩⟩
theorem RIn.snoc {X : List Nat} {w : World} {rs : List Raw} {l : List Tab} {r : Raw} {t : Tab} (h : RIn X w rs l) (h1 : r.n = t.n) (h2 : ∃ oc, oc ∉ X ∧ oc < w.heap.size ∧ Cs w r.c oc t.cols) (h3 : ∃ ok, ok ∉ X ∧ ok < w.heap.size ∧ Is w r.k ok t.keys) : RIn X w (rs ++ [r]) (l ++ [t]) := by
  refine ⟨by simp [h.1], fun k r' t' hr ht => ?_⟩
  by_cases hk : k < l.length
  · rw [List.getElem?_append_left (by rw [h.1]; exact hk)] at hr
    rw [List.getElem?_append_left hk] at ht
    exact h.2 k r' t' hr ht
  · rw [List.getElem?_append_right (by rw [h.1]; omega), h.1] at hr
    rw [List.getElem?_append_right (by omega)] at ht
    have hk0 : k - l.length = 0 := by
      have := (List.getElem?_eq_some_iff.1 ht).1
      simp at this; omega
    rw [hk0] at hr ht
    simp at hr ht
    subst hr ht
    exact ⟨h1, h2, h3⟩
theorem own_made' (w : World) (b base e size : Nat) (h : b = w.heap.size) (hb : base ≤ w.heap.size) : (w.alloc (.cells #[] e)).ownsRow base e size (.slice (some ⟨b, 0, none⟩) 0 0) 0 [] := by
  subst h
  exact World.ownsRow_made w #[] 0 hb (by decide) (by simp)
theorem own_alloc {w : World} {base e size n : Nat} {v : Value} {xs : List Value} (h : w.ownsRow base e size v n xs) (o : Obj) : (w.alloc o).ownsRow base e size v n xs := own_ext h ((Ext.refl [] w).alloc o) (by simp)
theorem own_drew {w : World} {base e size n : Nat} {v : Value} {xs : List Value} (h : w.ownsRow base e size v n xs) : w.drew.ownsRow base e size v n xs := own_ext h (Ext.refl [] w).drew (by simp)
theorem sl_alloc {w : World} {v : Value} {ob size n : Nat} {xs : List Value} (h : Sl w v ob size n xs) (o : Obj) : Sl (w.alloc o) v ob size n xs := h.ext ((Ext.refl [] w).alloc o) (by simp)
theorem sl_drew {w : World} {v : Value} {ob size n : Nat} {xs : List Value} (h : Sl w v ob size n xs) : Sl w.drew v ob size n xs := h.ext (Ext.refl [] w).drew (by simp)
theorem own_sl {w : World} {base e size n : Nat} {v : Value} {xs : List Value} (h : w.ownsRow base e size v n xs) (hb : base < w.heap.size) : ∃ o, base ≤ o ∧ o < w.heap.size ∧ Sl w v o size n xs := by
  obtain ⟨ob, hs, h1⟩ := Sl.of_own h
  rcases h1 with rfl | ⟨h1, h2⟩
  · exact ⟨base, Nat.le_refl _, hb, Sl.any_none hs base⟩
  · exact ⟨ob, h1, (h.lt ob h2).2, hs⟩
theorem keepA {W w w' : World} {b0 o0 b1 o1 b : Nat} {v0 v1 : Value} (h : w.cell? ⟨b0, o0, none⟩ = some v0 ∧ w.cell? ⟨b1, o1, none⟩ = some v1 ∧ Ext [] W w) (e : Ext [b] w w') (h0 : b0 ≠ b) (h1 : b1 ≠ b) (hb : W.heap.size ≤ b) : w'.cell? ⟨b0, o0, none⟩ = some v0 ∧ w'.cell? ⟨b1, o1, none⟩ = some v1 ∧ Ext [] W w' := by
  refine ⟨e.read h.1 (by simpa using h0), e.read h.2.1 (by simpa using h1), h.2.2.trans' e (fun i hi => .inr ?_)⟩
  obtain rfl : i = b := by simpa using hi
  exact hb
end Go.Proofs.YtjmfcjidhmaibaaGreatDoor
