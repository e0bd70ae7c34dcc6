/-
  IsName.
-/
import Derived.Test.YtjmfcjidhmaibaaGreatDoorCatC
import Derived.Deep.RegionWith
import Derived.Deep.DeepCutAuto
namespace Go.Proofs.YtjmfcjidhmaibaaGreatDoor
open Go.RowKit
open Go.Lib hiding intOf
set_option linter.unusedVariables false

theorem hp_new' (w : World) (b : Nat) (o : Obj) (h : b = w.heap.size) : (w.alloc o).heap[b]? = some o := by subst h; exact heap_new _ _
theorem hp_alloc {w : World} {b : Nat} {o p : Obj} (h : w.heap[b]? = some o) : (w.alloc p).heap[b]? = some o := ((Ext.refl [] w).alloc p).heap h (by simp)
theorem hp_drew {w : World} {b : Nat} {o : Obj} (h : w.heap[b]? = some o) : w.drew.heap[b]? = some o := h
theorem class_heap (w : World) (b : Nat) (xs : List ByteArray) (all : List UInt8) (hb : w.heap[b]? = some (.cells (xs.map Value.string).toArray 9 (0, 0))) (hx : join (xs.map L) [] = all) (hn : xs.length ≤ 1000) (hl : all.length ≤ 1000) :
    Calls Tryz.prog 74 #[.slice (some ⟨b, 0, none⟩) xs.length xs.length] w fun e w' => (∃ f, e = .returned f ∧ ClassF w' f all) ∧ Ext [] w w' :=
  class_any _ _ b xs all (by have := (Blk.sl (l := xs.map Value.string) (size := 1) (n := xs.length) (cap := xs.length) hb (by simp) (Nat.le_refl _) (by unfold maxLen; omega)); rwa [List.take_of_length_le (by simp)] at this) hx (by omega) (by omega)
theorem class_small (w : World) (b : Nat) (hb : w.heap[b]? = some (.cells #[.string ⟨#[97, 122]⟩] 9 (0, 0))) : Calls Tryz.prog 74 #[.slice (some ⟨b, 0, none⟩) 1 1] w fun e w' => (∃ f, e = .returned f ∧ ClassF w' f cSmall) ∧ Ext [] w w' :=
  class_heap w b [B [97, 122]] cSmall hb (by decide) (by decide) (by decide)
theorem class_name (w : World) (b : Nat) (hb : w.heap[b]? = some (.cells #[.string ⟨#[97, 122]⟩, .string ⟨#[48, 57]⟩, .string ⟨#[95, 95]⟩] 9 (0, 0))) : Calls Tryz.prog 74 #[.slice (some ⟨b, 0, none⟩) 3 3] w fun e w' => (∃ f, e = .returned f ∧ ClassF w' f cName) ∧ Ext [] w w' :=
  class_heap w b [B [97, 122], B [48, 57], B [95, 95]] cName hb (by decide) (by decide) (by decide)

theorem names_ascii (l : List UInt8) (h : l.all (spans cName) = true) : ascii l = true := by
  unfold ascii
  rw [List.all_eq_true] at *
  intro b hb
  have := h b hb
  simp [spans] at this ⊢
  omega


set_option maxHeartbeats 2000000 in
theorem isName_t (w : World) (s : ByteArray) (hG : Glob w) (h0 : 1 ≤ s.size) (h16 : s.size ≤ 16) (hA : ahead cSmall (L (s.extract 0 1)) = 1) (hB : ahead cName (L s) = s.size) (c : Bool) (hC : isWord (toUpperA (L s)) = c) :
    Calls Tryz.prog 51 #[.string s] w fun e w' => e = .returned (.bool (!c)) ∧ Ext [] w w' := by
  have ha : ascii (L s) = true := names_ascii _ (by rw [← ahead_all, hB]; simp [size_L])
  have a1 := fun W f (hf : ClassF W f cSmall) => ahead_any W (s.extract 0 1) f cSmall hf (by decide) (by rw [size_L, L_extract, List.length_take]; omega)
  have a2 := fun W f (hf : ClassF W f cName) => ahead_any W s f cName hf (by decide) (by omega)
  have up := fun W => ToUpper_any W s (by omega) ha
  have iw := fun W (hg : Glob W) => IsWord_any W (B (toUpperA (L s))) hg
  simp only [hA, hB, L_B, hC] at a1 a2 iw
  have e1 : s.toList.isEmpty = false := by
    rw [ByteArray.toList_eq]
    show (L s).isEmpty = false
    rw [List.isEmpty_eq_false_iff]
    intro h
    have := size_L s
    rw [h] at this
    exact absurd this (by simp only [List.length_nil]; omega)
  clear hA hB hC ha
  go_enter Tryz.func51, Tryz.ntmps51
  go_wp2
  go_region_with (first
    | (go_at_call 74; (with_reducible refine (class_small _ _ ?_).mono ?_); (repeat' (first | exact hp_new' _ _ _ rfl | (refine hp_new' _ _ _ ?_; (simp; done)) | (refine h1.heap ?_ (by simp)) | refine hp_drew ?_ | refine hp_alloc ?_)); rintro e w1 ⟨⟨f1, rfl, hf1⟩, h1⟩)
    | (go_at_call 74; (with_reducible refine (class_name _ _ ?_).mono ?_); (repeat' (first | exact hp_new' _ _ _ rfl | (refine hp_new' _ _ _ ?_; (simp; done)) | (refine h1.heap ?_ (by simp)) | refine hp_drew ?_ | refine hp_alloc ?_)); rintro e w3 ⟨⟨f3, rfl, hf3⟩, h3⟩)
    | (go_at_call 73; (with_reducible refine (a1 _ _ (hf1.ext ?_)).mono ?_); (repeat' (first | exact Ext.refl _ _ | (with_reducible refine Ext.trans ?_ h5) | (with_reducible refine Ext.trans ?_ h4) | (with_reducible refine Ext.trans ?_ h3) | (with_reducible refine Ext.trans ?_ h1) | (with_reducible refine Ext.alloc ?_ _) | (with_reducible refine Ext.drew ?_))); rintro e w2 ⟨rfl, rfl⟩)
    | (go_at_call 73; (with_reducible refine (a2 _ _ (hf3.ext ?_)).mono ?_); (repeat' (first | exact Ext.refl _ _ | (with_reducible refine Ext.trans ?_ h5) | (with_reducible refine Ext.trans ?_ h4) | (with_reducible refine Ext.trans ?_ h3) | (with_reducible refine Ext.trans ?_ h1) | (with_reducible refine Ext.alloc ?_ _) | (with_reducible refine Ext.drew ?_))); rintro e w4 ⟨rfl, rfl⟩)
    | (go_at_call 76; (with_reducible refine (up _).mono ?_); rintro e w5 ⟨rfl, h5⟩)
    | (go_at_call 75; (with_reducible refine (iw _ (hG.ext ?_)).mono ?_); (repeat' (first | exact Ext.refl _ _ | (with_reducible refine Ext.trans ?_ h5) | (with_reducible refine Ext.trans ?_ h4) | (with_reducible refine Ext.trans ?_ h3) | (with_reducible refine Ext.trans ?_ h1) | (with_reducible refine Ext.alloc ?_ _) | (with_reducible refine Ext.drew ?_))); rintro e w6 ⟨rfl, rfl⟩))
  all_goals
    go_wp2
    go_ret
    exact ⟨rfl, by (repeat' (first | exact Ext.refl _ _ | (with_reducible refine Ext.trans ?_ h5) | (with_reducible refine Ext.trans ?_ h4) | (with_reducible refine Ext.trans ?_ h3) | (with_reducible refine Ext.trans ?_ h1) | (with_reducible refine Ext.alloc ?_ _) | (with_reducible refine Ext.drew ?_)))⟩

end Go.Proofs.YtjmfcjidhmaibaaGreatDoor
