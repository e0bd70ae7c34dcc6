
/-
  The reference of catalogs: Kind, Words.
-/
import Derived.Test.YtjmfcjidhmaibaaGreatDoorCatS
import Derived.Test.YtjmfcjidhmaibaaGreatDoorCatXC
import Derived.Test.YtjmfcjidhmaibaaGreatDoorCatRM
namespace Go.Proofs.YtjmfcjidhmaibaaGreatDoor
open Go.RowKit
open Go.Lib hiding intOf
set_option linter.unusedVariables false

theorem kindW_no {s : List UInt8} (h : ∀ j : Nat, 1 ≤ j → j < 4 → kw j ≠ s) : kindW s = 0 := by
  have h1 := h 1 (by omega) (by omega)
  have h2 := h 2 (by omega) (by omega)
  have h3 := h 3 (by omega) (by omega)
  unfold kindW
  rw [if_neg (fun e => h1 (by rw [e]; rfl)), if_neg (fun e => h2 (by rw [e]; rfl)), if_neg (fun e => h3 (by rw [e]; rfl))]
theorem kw_ne {k : Nat} (h1 : 1 ≤ k) (h3 : k ≤ 3) : kw k ≠ [] := fun e => kw_nil.1 e (by omega)
set_option maxRecDepth 100000 in
set_option maxHeartbeats 1000000 in
theorem rKind_any (w : World) (s : List UInt8) : Calls Tryz.prog 71 #[.string (B s)] w fun e w' => e = .returned (.int .i64 (kindW s)) ∧ w = w' := by
  go_enter Tryz.func71, Tryz.ntmps71
  go_wp2
  go_loop [3] (fun i => ∃ k : Nat, 1 ≤ k ∧ k ≤ 4 ∧ i = .int .i64 k ∧ Hid (∀ j : Nat, 1 ≤ j → j < k → kw j ≠ s)) (fun i => 4 - (intOf i).toNat)
  case atStart => exact ⟨1, by omega, by omega, rfl, fun j h1 h2 => by omega⟩
  case round =>
    obtain ⟨k, hk1, hk, rfl, hS⟩ := hrel
    by_cases hlt : k ≤ 3
    · have nw := fun U => Word_any U k
      have hs := toList_eq (B (kw k)) (B s)
      by_cases he : kw k = s
      · have HR : Hid (kindW s = k) := by show _ = _; rw [← he]; exact kindW_kw (kw_ne hk1 hlt)
        rw [decide_eq_true (B_inj.2 he)] at hs
        clear he hS
        generalize kw k = y at *
        go_wp2_with (go_at_call 40; (with_reducible refine (nw _).mono ?_); rintro e v2 ⟨rfl, rfl⟩)
        go_ret
        exact ⟨ret_int HR.out.symm, rfl⟩
      · have HS : Hid (∀ j : Nat, 1 ≤ j → j < k + 1 → kw j ≠ s) := by
          intro j h1 h2
          by_cases e : j = k
          · subst e; exact he
          · exact hS.out j h1 (by omega)
        rw [decide_eq_false (fun e => he (B_inj.1 e))] at hs
        clear he hS
        generalize kw k = y at *
        go_wp2_with (go_at_call 40; (with_reducible refine (nw _).mono ?_); rintro e v2 ⟨rfl, rfl⟩)
        go_roundw
        case rel => exact ⟨k + 1, by omega, by omega, by go_num, HS⟩
        case measure => simp [intOf]; omega
    · obtain rfl : k = 4 := by omega
      have HR : Hid (kindW s = 0) := kindW_no hS.out
      clear hS
      go_wp2
      go_ret
      exact ⟨ret_int HR.out.symm, rfl⟩

/-! ## Words -/
theorem strs_snoc {ws : List W8} {x : W8} : (ws.map fun y => Value.string (B y)) ++ [Value.string (B x)] = (ws ++ [x]).map fun y => Value.string (B y) := by simp
set_option maxRecDepth 100000 in
set_option maxHeartbeats 2000000 in
theorem rWords_any (w : World) (s : ByteArray) (hs : s.size ≤ 1000000) :
    Calls Tryz.prog 49 #[.string s] w fun e w' => (∃ v ob, e = .returned v ∧ Ss w' v ob (wds (L s))) ∧ Ext [] w w' := by
  go_enter Tryz.func49, Tryz.ntmps49
  go_wp2
  go_loopw [3, 4, 5] (fun out word i wr => ∃ (k : Nat) (ws : List W8) (x : W8), word = .string (B x) ∧ i = .int .i64 k ∧ k ≤ s.size ∧ ws.length ≤ k ∧ (B x).size ≤ k ∧ wr.ownsRow w.heap.size 9 1 out ws.length (ws.map fun y => Value.string (B y)) ∧ Ext [] w wr ∧ Hid (wds (L s) = ws ++ wds (x ++ (L s).drop k) ∧ (32 : UInt8) ∉ x)) (fun out word i _ => s.size - (intOf i).toNat)
  case atStart => exact ⟨0, [], [], rfl, rfl, by omega, by simp, by decide, World.ownsRow_nil _ _ _ _, Ext.refl _ _, ⟨by simp, by simp⟩⟩
  case round =>
    obtain ⟨k, ws, x, rfl, rfl, hk, hwl, hxl, hO, hX, hI⟩ := hrel
    have hsz := hX.size
    by_cases hlt : k < s.size
    · have hx : (L s)[k]? = some (s[k]'hlt) := List.getElem?_eq_getElem (show k < (L s).length from hlt)
      have b0 := (s[k]'hlt).toNat_lt
      have hdr : (L s).drop k = (s[k]'hlt) :: (L s).drop (k + 1) := List.drop_eq_getElem_cons (show k < (L s).length from hlt)
      by_cases h32 : (s[k]'hlt).toNat = 32
      · have he : (s[k]'hlt) = 32 := UInt8.toNat_inj.1 h32
        have q1 : (((s[k]'hlt).toNat : Int) == 32) = true := by simp; omega
        have HI : Hid (wds (L s) = (ws ++ [x]) ++ wds ([] ++ (L s).drop (k + 1)) ∧ (32 : UInt8) ∉ ([] : W8)) := by
          refine ⟨?_, by simp⟩
          rw [hI.out.1, hdr, he, wds_more _ _ hI.out.2]
          simp
        clear hx he hdr hI h32
        go_wp2_with (at_builtin; refine wpList_append_sl TStr rfl (.tmp 16) (.tmp 18) rfl rfl (own_alloc hO _) rfl (Sl.one wr _ _) (by intro u hu; simp at hu; subst hu; rfl) (by unfold maxLen; omega) (by omega) (by have := hX.size; simp; omega) ?_; intro v' w3 hO' h3; have hX3 := (hX.alloc (.cells #[.string (B x)] 9)).trans' h3 (fun i hi => .inr (own_ge hO i hi)); rw [strs_snoc] at hO'; clear hO)
        go_roundw
        case rel => exact ⟨k + 1, ws ++ [x], [], rfl, by go_num, by omega, by simp; omega, Nat.zero_le _, by simpa using hO', hX3, HI⟩
        case measure => simp [intOf]; omega
      · have hne : (s[k]'hlt) ≠ 32 := fun e => h32 (by rw [e]; rfl)
        have q1 : (((s[k]'hlt).toNat : Int) == 32) = false := by simp; omega
        have hsl : s.extract k (k + 1) = B [s[k]'hlt] := L_inj.1 (by
          rw [L_extract, L_B, show k + 1 - k = 1 by omega, List.take_one, List.head?_drop, hx]; rfl)
        have ha1 : B x ++ B [s[k]'hlt] = B (x ++ [s[k]'hlt]) := L_inj.1 (by rw [L_append, L_B, L_B, L_B])
        have hs1 : (B [s[k]'hlt]).size = 1 := rfl
        have hs2 : (B (x ++ [s[k]'hlt])).size = (B x).size + 1 := by show (x ++ [s[k]'hlt]).length = x.length + 1; simp
        have HI : Hid (wds (L s) = ws ++ wds ((x ++ [s[k]'hlt]) ++ (L s).drop (k + 1)) ∧ (32 : UInt8) ∉ (x ++ [s[k]'hlt])) := by
          refine ⟨?_, ?_⟩
          · rw [hI.out.1, hdr]; simp
          · intro hm
            rcases List.mem_append.1 hm with hm | hm
            · exact hI.out.2 hm
            · exact hne (List.mem_singleton.1 hm).symm
        clear hx hne hdr hI h32
        go_wp2
        go_roundw
        case rel => exact ⟨k + 1, ws, _, rfl, by go_num, by omega, by omega, by omega, hO, hX, HI⟩
        case measure => simp [intOf]; omega
    · obtain rfl : k = s.size := by omega
      have HI : Hid (wds (L s) = ws ++ [x]) := by
        show _ = _
        rw [hI.out.1, List.drop_of_length_le (by rw [← size_L]; omega), List.append_nil, wds_word _ hI.out.2]
      clear hI
      go_wp2_with (at_builtin; refine wpList_append_sl TStr rfl (.tmp 27) (.tmp 29) rfl rfl (own_alloc hO _) rfl (Sl.one wr _ _) (by intro u hu; simp at hu; subst hu; rfl) (by unfold maxLen; omega) (by omega) (by have := hX.size; simp; omega) ?_; intro v' w3 hO' h3; have hX3 := (hX.alloc (.cells #[.string (B x)] 9)).trans' h3 (fun i hi => .inr (own_ge hO i hi)); rw [strs_snoc] at hO'; clear hO)
      go_ret
      obtain ⟨ob, hS, -⟩ := Sl.of_own hO'
      refine ⟨⟨_, ob, rfl, ?_⟩, hX3⟩
      rw [HI.out]
      unfold Ss
      simpa using hS
end Go.Proofs.YtjmfcjidhmaibaaGreatDoor
