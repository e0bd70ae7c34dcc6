/-
  IsName, the other ways.
-/
import Derived.Test.YtjmfcjidhmaibaaGreatDoorCatD
import Derived.Deep.RegionWith
import Derived.Deep.DeepCutAuto
namespace Go.Proofs.YtjmfcjidhmaibaaGreatDoor
open Go.RowKit
open Go.Lib hiding intOf
set_option linter.unusedVariables false


theorem not_empty (s : ByteArray) (h0 : 1 ≤ s.size) : s.toList.isEmpty = false := by
  rw [ByteArray.toList_eq]
  show (L s).isEmpty = false
  rw [List.isEmpty_eq_false_iff]
  intro h
  have := size_L s
  rw [h] at this
  exact absurd this (by simp only [List.length_nil]; omega)
set_option maxHeartbeats 2000000 in
theorem isName_b (w : World) (s : ByteArray) (h0 : 1 ≤ s.size) (h16 : s.size ≤ 16) (hA : ahead cSmall (L (s.extract 0 1)) = 1) (n : Nat) (hn : ahead cName (L s) = n) (hB : ((n : Int) == (s.size : Int)) = false) (hB2 : (n == s.size) = false) :
    Calls Tryz.prog 51 #[.string s] w fun e w' => e = .returned (.bool false) ∧ Ext [] w w' := by
  have a1 := fun W f (hf : ClassF W f cSmall) => ahead_any W (s.extract 0 1) f cSmall hf (by decide) (by rw [size_L, L_extract, List.length_take]; omega)
  have a2 := fun W f (hf : ClassF W f cName) => ahead_any W s f cName hf (by decide) (by omega)
  simp only [hA, hn] at a1 a2
  have e1 := not_empty s h0
  clear hA hn
  go_enter Tryz.func51, Tryz.ntmps51
  go_wp2
  first | go_region_with (first
    | (go_at_call 74; (with_reducible refine (class_small _ _ ?_).mono ?_); (repeat' (first | exact hp_new' _ _ _ rfl | (refine hp_new' _ _ _ ?_; (simp; done)) | (refine h1.heap ?_ (by simp)) | refine hp_drew ?_ | refine hp_alloc ?_)); rintro e w1 ⟨⟨f1, rfl, hf1⟩, h1⟩)
    | (go_at_call 74; (with_reducible refine (class_name _ _ ?_).mono ?_); (repeat' (first | exact hp_new' _ _ _ rfl | (refine hp_new' _ _ _ ?_; (simp; done)) | (refine h1.heap ?_ (by simp)) | refine hp_drew ?_ | refine hp_alloc ?_)); rintro e w3 ⟨⟨f3, rfl, hf3⟩, h3⟩)
    | (go_at_call 73; (with_reducible refine (a1 _ _ (hf1.ext ?_)).mono ?_); (repeat' (first | exact Ext.refl _ _ | (with_reducible refine Ext.trans ?_ h5) | (with_reducible refine Ext.trans ?_ h4) | (with_reducible refine Ext.trans ?_ h3) | (with_reducible refine Ext.trans ?_ h1) | (with_reducible refine Ext.alloc ?_ _) | (with_reducible refine Ext.drew ?_))); rintro e w2 ⟨rfl, rfl⟩)
    | (go_at_call 73; (with_reducible refine (a2 _ _ (hf3.ext ?_)).mono ?_); (repeat' (first | exact Ext.refl _ _ | (with_reducible refine Ext.trans ?_ h5) | (with_reducible refine Ext.trans ?_ h4) | (with_reducible refine Ext.trans ?_ h3) | (with_reducible refine Ext.trans ?_ h1) | (with_reducible refine Ext.alloc ?_ _) | (with_reducible refine Ext.drew ?_))); rintro e w4 ⟨rfl, rfl⟩)) | fail
  all_goals
    go_wp2
    go_ret
    exact ⟨rfl, by (repeat' (first | exact Ext.refl _ _ | (with_reducible refine Ext.trans ?_ h5) | (with_reducible refine Ext.trans ?_ h4) | (with_reducible refine Ext.trans ?_ h3) | (with_reducible refine Ext.trans ?_ h1) | (with_reducible refine Ext.alloc ?_ _) | (with_reducible refine Ext.drew ?_)))⟩
set_option maxHeartbeats 2000000 in
theorem isName_a (w : World) (s : ByteArray) (h0 : 1 ≤ s.size) (h16 : s.size ≤ 16) (n : Nat) (hn : ahead cSmall (L (s.extract 0 1)) = n) (hA : ((n : Int) == 1) = false) (hA2 : (n == 1) = false) :
    Calls Tryz.prog 51 #[.string s] w fun e w' => e = .returned (.bool false) ∧ Ext [] w w' := by
  have a1 := fun W f (hf : ClassF W f cSmall) => ahead_any W (s.extract 0 1) f cSmall hf (by decide) (by rw [size_L, L_extract, List.length_take]; omega)
  simp only [hn] at a1
  have e1 := not_empty s h0
  clear hn
  go_enter Tryz.func51, Tryz.ntmps51
  go_wp2
  have hz : (1 : Int) ≤ (s.size : Int) := by omega
  refine wp_region_any (by kernel_rfl) ?_
  try (change wpAny _ _ _ _ _ _ _ (World.drew _))
  (refine wpAny_take (i := 0) (v := ?_) rfl (by kernel_rfl) (by kernel_rfl) (by kernel_rfl) (fun _ _ _ h => h) (Or.inl ⟨by kernel_rfl, ?_⟩) ?_; case refine_2 => (intro w; go_simp; (try with_reducible rfl)))
  (refine wpAny_take (i := 1) (v := ?_) rfl (by kernel_rfl) (by kernel_rfl) (by kernel_rfl) (fun _ _ _ h => h) (Or.inl ⟨by kernel_rfl, ?_⟩) ?_; case refine_2 => (intro w; go_simp; (try with_reducible rfl)))
  (refine wpAny_ready (rs := [2]) (by kernel_rfl) (by simp) ?_; refine AllReady.cons rfl (fun K hK => ?_) AllReady.nil)
  go_simp
  refine hK _ _ ?_
  clear hK K
  (refine wpAny_ready (rs := [3]) (by kernel_rfl) (by simp) ?_; refine AllReady.cons rfl (fun K hK => ?_) AllReady.nil)
  go_simp
  go_wp2_with (go_at_call 74; (with_reducible refine (class_small _ _ ?_).mono ?_); (repeat' (first | exact hp_new' _ _ _ rfl | (refine hp_new' _ _ _ ?_; (simp; done)) | (refine h1.heap ?_ (by simp)) | refine hp_drew ?_ | refine hp_alloc ?_)); rintro e w1 ⟨⟨f1, rfl, hf1⟩, h1⟩)
  (refine wpAny_ready (rs := [4]) (by kernel_rfl) (by simp) ?_; refine AllReady.cons rfl (fun K hK => ?_) AllReady.nil)
  go_simp
  go_wp2_with (go_at_call 73; (with_reducible refine (a1 _ _ (hf1.ext ?_)).mono ?_); (repeat' (first | exact Ext.refl _ _ | (with_reducible refine Ext.trans ?_ h5) | (with_reducible refine Ext.trans ?_ h4) | (with_reducible refine Ext.trans ?_ h3) | (with_reducible refine Ext.trans ?_ h1) | (with_reducible refine Ext.alloc ?_ _) | (with_reducible refine Ext.drew ?_))); rintro e w2 ⟨rfl, rfl⟩)
  (refine wpAny_take (i := 5) (v := ?_) rfl (by kernel_rfl) (by kernel_rfl) (by kernel_rfl) (fun _ _ _ h => h) (Or.inl ⟨by kernel_rfl, ?_⟩) ?_; case refine_2 => (intro w; go_simp; (try with_reducible rfl)))
  (refine wpAny_take (i := 6) (v := ?_) rfl (by kernel_rfl) (by kernel_rfl) (by kernel_rfl) (fun _ _ _ h => h) (Or.inl ⟨by kernel_rfl, ?_⟩) ?_; case refine_2 => (intro w; go_simp; (try with_reducible rfl)))
  (refine wpAny_take (i := 7) (v := undef) rfl (by kernel_rfl) (by kernel_rfl) (by kernel_rfl) (fun _ _ _ h => h) (Or.inr ⟨by kernel_rfl, rfl⟩) ?_; (try simp only [Act.put, Array.setIfInBounds, List.size_toArray, List.length_cons, List.length_nil]); (try go_simp))
  (refine wpAny_take (i := 8) (v := undef) rfl (by kernel_rfl) (by kernel_rfl) (by kernel_rfl) (fun _ _ _ h => h) (Or.inr ⟨by kernel_rfl, rfl⟩) ?_; (try simp only [Act.put, Array.setIfInBounds, List.size_toArray, List.length_cons, List.length_nil]); (try go_simp))
  (refine wpAny_take (i := 9) (v := undef) rfl (by kernel_rfl) (by kernel_rfl) (by kernel_rfl) (fun _ _ _ h => h) (Or.inr ⟨by kernel_rfl, rfl⟩) ?_; (try simp only [Act.put, Array.setIfInBounds, List.size_toArray, List.length_cons, List.length_nil]); (try go_simp))
  (refine wpAny_take (i := 10) (v := undef) rfl (by kernel_rfl) (by kernel_rfl) (by kernel_rfl) (fun _ _ _ h => h) (Or.inr ⟨by kernel_rfl, rfl⟩) ?_; (try simp only [Act.put, Array.setIfInBounds, List.size_toArray, List.length_cons, List.length_nil]); (try go_simp))
  (refine wpAny_take (i := 11) (v := undef) rfl (by kernel_rfl) (by kernel_rfl) (by kernel_rfl) (fun _ _ _ h => h) (Or.inr ⟨by kernel_rfl, rfl⟩) ?_; (try simp only [Act.put, Array.setIfInBounds, List.size_toArray, List.length_cons, List.length_nil]); (try go_simp))
  (refine wpAny_take (i := 12) (v := undef) rfl (by kernel_rfl) (by kernel_rfl) (by kernel_rfl) (fun _ _ _ h => h) (Or.inr ⟨by kernel_rfl, rfl⟩) ?_; (try simp only [Act.put, Array.setIfInBounds, List.size_toArray, List.length_cons, List.length_nil]); (try go_simp))
  (refine wpAny_take (i := 13) (v := undef) rfl (by kernel_rfl) (by kernel_rfl) (by kernel_rfl) (fun _ _ _ h => h) (Or.inr ⟨by kernel_rfl, rfl⟩) ?_; (try simp only [Act.put, Array.setIfInBounds, List.size_toArray, List.length_cons, List.length_nil]); (try go_simp))
  (refine wpAny_take (i := 14) (v := ?_) rfl (by kernel_rfl) (by kernel_rfl) (by kernel_rfl) (fun _ _ _ h => h) (Or.inl ⟨by kernel_rfl, ?_⟩) ?_; case refine_2 => (intro w; go_simp; (try with_reducible rfl)))
  (refine wpAny_take (i := 15) (v := ?_) rfl (by kernel_rfl) (by kernel_rfl) (by kernel_rfl) (fun _ _ _ h => h) (Or.inl ⟨by kernel_rfl, ?_⟩) ?_; case refine_2 => (intro w; go_simp; (try with_reducible rfl)))
  (refine wpAny_take (i := 16) (v := undef) rfl (by kernel_rfl) (by kernel_rfl) (by kernel_rfl) (fun _ _ _ h => h) (Or.inr ⟨by kernel_rfl, rfl⟩) ?_; (try simp only [Act.put, Array.setIfInBounds, List.size_toArray, List.length_cons, List.length_nil]); (try go_simp))
  (refine wpAny_take (i := 17) (v := undef) rfl (by kernel_rfl) (by kernel_rfl) (by kernel_rfl) (fun _ _ _ h => h) (Or.inr ⟨by kernel_rfl, rfl⟩) ?_; (try simp only [Act.put, Array.setIfInBounds, List.size_toArray, List.length_cons, List.length_nil]); (try go_simp))
  (refine wpAny_take (i := 18) (v := undef) rfl (by kernel_rfl) (by kernel_rfl) (by kernel_rfl) (fun _ _ _ h => h) (Or.inr ⟨by kernel_rfl, rfl⟩) ?_; (try simp only [Act.put, Array.setIfInBounds, List.size_toArray, List.length_cons, List.length_nil]); (try go_simp))
  (refine wpAny_take (i := 19) (v := undef) rfl (by kernel_rfl) (by kernel_rfl) (by kernel_rfl) (fun _ _ _ h => h) (Or.inr ⟨by kernel_rfl, rfl⟩) ?_; (try simp only [Act.put, Array.setIfInBounds, List.size_toArray, List.length_cons, List.length_nil]); (try go_simp))
  (refine wpAny_take (i := 20) (v := ?_) rfl (by kernel_rfl) (by kernel_rfl) (by kernel_rfl) (fun _ _ _ h => h) (Or.inl ⟨by kernel_rfl, ?_⟩) ?_; case refine_2 => (intro w; go_simp; (try with_reducible rfl)))
  (refine wpAny_take (i := 21) (v := ?_) rfl (by kernel_rfl) (by kernel_rfl) (by kernel_rfl) (fun _ _ _ h => h) (Or.inl ⟨by kernel_rfl, ?_⟩) ?_; case refine_2 => (intro w; go_simp; (try with_reducible rfl)))
  refine wpAny_done (by kernel_rfl) ?_ _
  go_wp2
  go_ret
  exact ⟨rfl, by (repeat' (first | exact Ext.refl _ _ | (with_reducible refine Ext.trans ?_ h5) | (with_reducible refine Ext.trans ?_ h4) | (with_reducible refine Ext.trans ?_ h3) | (with_reducible refine Ext.trans ?_ h1) | (with_reducible refine Ext.alloc ?_ _) | (with_reducible refine Ext.drew ?_)))⟩
theorem isName_0 (w : World) (s : ByteArray) (h0 : s.toList.isEmpty = true) :
    Calls Tryz.prog 51 #[.string s] w fun e w' => e = .returned (.bool false) ∧ Ext [] w w' := by
  go_enter Tryz.func51, Tryz.ntmps51
  go_wp2
  go_ret
  exact ⟨rfl, Ext.refl _ _⟩
theorem isName_17 (w : World) (s : ByteArray) (h0 : 16 < s.size) :
    Calls Tryz.prog 51 #[.string s] w fun e w' => e = .returned (.bool false) ∧ Ext [] w w' := by
  have e1 := not_empty s (by omega)
  have hd : decide ((16 : Int) < (s.size : Int)) = true := by simp; omega
  go_enter Tryz.func51, Tryz.ntmps51
  go_wp2
  go_ret
  exact ⟨rfl, Ext.refl _ _⟩
theorem IsName_any (w : World) (s : ByteArray) (hG : Glob w) :
    Calls Tryz.prog 51 #[.string s] w fun e w' => e = .returned (.bool (isName (L s))) ∧ Ext [] w w' := by
  have hs := size_L s
  by_cases h0 : L s = []
  · have hf : isName (L s) = false := by rw [h0]; rfl
    rw [hf]
    exact isName_0 w s (by rw [ByteArray.toList_eq]; show (L s).isEmpty = true; rw [h0]; rfl)
  · have h1 : 1 ≤ s.size := by rw [hs]; exact List.length_pos_iff.2 h0
    have he : (L s).isEmpty = false := by simpa using h0
    by_cases h16 : 16 < s.size
    · have hf : isName (L s) = false := by unfold isName; rw [show decide ((L s).length ≤ 16) = false by simp; omega]; simp
      rw [hf]
      exact isName_17 w s h16
    · have hd : decide ((L s).length ≤ 16) = true := by simp; omega
      have hx : L (s.extract 0 1) = (L s).take 1 := by rw [L_extract]; simp
      have hl1 : ((L s).take 1).length = 1 := by rw [List.length_take]; omega
      by_cases hA : ahead cSmall ((L s).take 1) = 1
      · have hA' : ((L s).take 1).all (spans cSmall) = true := by rw [← ahead_all, hl1, hA]; rfl
        by_cases hB : ahead cName (L s) = s.size
        · have hB' : (L s).all (spans cName) = true := by rw [← ahead_all, hB, hs]; simp
          have hf : isName (L s) = !isWord (toUpperA (L s)) := by unfold isName; rw [he, hd, hA', hB']; simp
          rw [hf]
          exact isName_t w s hG h1 (by omega) (by rw [hx]; exact hA) hB _ rfl
        · have hB' : (L s).all (spans cName) = false := by rw [← ahead_all, ← hs]; simpa using hB
          have hf : isName (L s) = false := by unfold isName; rw [hB']; simp
          rw [hf]
          exact isName_b w s h1 (by omega) (by rw [hx]; exact hA) _ rfl (by simpa using fun e => hB (by omega)) (by simpa using hB)
      · have hA' : ((L s).take 1).all (spans cSmall) = false := by rw [← ahead_all, hl1]; simpa using hA
        have hf : isName (L s) = false := by unfold isName; rw [hA']; simp
        rw [hf]
        exact isName_a w s h1 (by omega) _ rfl (by rw [hx]; simpa using fun e => hA (by omega)) (by rw [hx]; simpa using hA)
end Go.Proofs.YtjmfcjidhmaibaaGreatDoor
