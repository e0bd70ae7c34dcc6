/-
  The reference: quoted.
-/
import Derived.Test.YtbenfgkomphlfaaGreatDoorLexRF
import Derived.Test.YtbenfgkomphlfaaGreatDoorLexI
namespace Go.Proofs.YtbenfgkomphlfaaGreatDoor
open Go.RowKit
open Go.Lib hiding intOf
set_option linter.unusedVariables false

theorem ext_one (s : ByteArray) (j : Nat) (h : j < s.size) : s.extract j (j + 1) = B [s[j]'h] := L_inj.1 (by
  rw [L_extract, L_B, show j + 1 - j = 1 by omega, List.take_one, List.head?_drop, List.getElem?_eq_getElem (show j < (L s).length from h)]; rfl)
theorem next_byte (W : World) (s : ByteArray) (k : Nat) (h : k + 1 < s.size) : (Instr.index 9 (.string s) (.int .i64 ((k : Int) + 1))).run Tryz.prog W = .ok (.int .u8 ((s[k + 1]'h).toNat : Int)) W := by
  rw [run_index_string (P := Tryz.prog) (w := W) 9 s .i64 ((k : Int) + 1) Tryz.underlying9, dif_pos (by omega)]
  rfl
set_option maxRecDepth 100000 in
set_option maxHeartbeats 2000000 in
theorem rquoted_any (w : World) (s : ByteArray) (k : Nat) (hk : k < s.size) (hs : s.size ≤ 10000) :
    Calls Tryz.prog 29 #[.string s, .int .i64 (k : Int)] w fun e w' =>
      e = .returned (match qscan ((L s).drop (k + 1)) [] 1 with
        | some (t, m) => .tuple #[.string (B t), .int .i64 ((k + m : Nat) : Int), .bool (isText t)]
        | none => .tuple #[.string (B []), .int .i64 0, .bool false]) ∧ w = w' := by
  have hQ : Hid (∃ z, qscan ((L s).drop (k + 1)) [] 1 = z) := ⟨_, rfl⟩
  generalize hz : qscan ((L s).drop (k + 1)) [] 1 = z
  have hZ : Hid (qscan ((L s).drop (k + 1)) [] (k + 1 - k) = z) := by show _ = _; rw [show k + 1 - k = 1 by omega]; exact hz
  clear hQ hz
  generalize hY : (match z with
    | some (t, m) => Value.tuple #[.string (B t), .int .i64 ((k + m : Nat) : Int), .bool (isText t)]
    | none => .tuple #[.string (B []), .int .i64 0, .bool false]) = y
  have HY := Lib.hid hY
  clear hY
  go_enter Tryz.func29, Tryz.ntmps29
  go_wp2
  go_loop [7, 8] (fun x i => ∃ (j : Nat) (acc : List UInt8), k + 1 ≤ j ∧ j ≤ s.size ∧ x = .string (B acc) ∧ (B acc).size ≤ j ∧ i = .int .i64 j ∧ Hid (qscan ((L s).drop j) acc (j - k) = z)) (fun x i => s.size - (intOf i).toNat)
  case atStart => exact ⟨k + 1, [], by omega, by omega, rfl, by have : (B []).size = 0 := rfl; omega, by go_num, hZ⟩
  case round =>
    obtain ⟨j, acc, hj, hjs, rfl, ha, rfl, hK⟩ := hrel
    clear hZ
    have pl := fun W => Plain_any W (B acc) (by omega)
    rw [L_B] at pl
    have hsz : ∀ c : UInt8, (B (acc ++ [c])).size = (B acc).size + 1 := fun c => by show (acc ++ [c]).length = acc.length + 1; simp
    have hap : ∀ c : UInt8, B acc ++ B [c] = B (acc ++ [c]) := fun c => L_inj.1 (by rw [L_append, L_B, L_B, L_B])
    have hs1 : ∀ c : UInt8, (B [c]).size = 1 := fun c => rfl
    by_cases hlt : j < s.size
    · have hd : (L s).drop j = (s[j]'hlt) :: (L s).drop (j + 1) := List.drop_eq_getElem_cons (show j < (L s).length from hlt)
      have b0 := (s[j]'hlt).toNat_lt
      by_cases h39 : (s[j]'hlt).toNat = 39
      · have he : (s[j]'hlt) = 39 := UInt8.toNat_inj.1 h39
        have q1 : (((s[j]'hlt).toNat : Int) == 39) = true := by simp; omega
        by_cases hend : j + 1 = s.size
        · have hN : Hid (y = .tuple #[.string (B acc), .int .i64 ((j : Int) + 1), .bool (isText acc)]) := by
            show _ = _
            rw [← HY.out, ← hK.out, hd, he, List.drop_eq_nil_of_le (by have := size_L s; omega), qscan_end]
            simp only
            rw [show ((k + (j - k + 1) : Nat) : Int) = (j : Int) + 1 by omega]
          have q2 : decide ((s.size : Int) ≤ (j : Int) + 1) = true := by simp; omega
          clear hd he hK h39 hend
          go_wp2_with (go_at_call 17; refine (pl _).mono ?_; rintro e w1 ⟨rfl, rfl⟩)
          refine bodyPost_ret (v := .tuple #[.string (B acc), .int .i64 ((j : Int) + 1), .bool (isText acc)]) (by simp [results, Tryz.results29, go_sem]) rfl ?_
          exact ⟨by rw [hN.out], rfl⟩
        · have hlt2 : j + 1 < s.size := by omega
          have hd2 : (L s).drop (j + 1) = (s[j + 1]'hlt2) :: (L s).drop (j + 2) := List.drop_eq_getElem_cons (show j + 1 < (L s).length from hlt2)
          have b1 := (s[j + 1]'hlt2).toNat_lt
          have hix := fun W => next_byte W s j hlt2
          have q2 : decide ((s.size : Int) ≤ (j : Int) + 1) = false := by simp; omega
          by_cases h2 : (s[j + 1]'hlt2).toNat = 39
          · have he2 : (s[j + 1]'hlt2) = 39 := UInt8.toNat_inj.1 h2
            have q3 : (((s[j + 1]'hlt2).toNat : Int) != 39) = false := by simp; omega
            have hex := ext_one s (j + 1) hlt2
            rw [he2] at hex
            have hK2 : Hid (qscan ((L s).drop (j + 2)) (acc ++ [39]) (j + 2 - k) = z) := by
              show _ = _
              rw [← hK.out, hd, hd2, he, he2, qscan_two, show j + 2 - k = j - k + 2 by omega]
            clear hd he hd2 he2 hK h39 hend h2
            go_wp2
            go_round
            case rel => exact ⟨j + 2, acc ++ [39], by omega, by omega, rfl, by rw [hsz]; omega, by go_num, hK2⟩
            case measure => simp [intOf]; omega
          · have hne2 : (s[j + 1]'hlt2) ≠ 39 := fun e => h2 (by rw [e]; rfl)
            have q3 : (((s[j + 1]'hlt2).toNat : Int) != 39) = true := by simp; omega
            have hN : Hid (y = .tuple #[.string (B acc), .int .i64 ((j : Int) + 1), .bool (isText acc)]) := by
              show _ = _
              rw [← HY.out, ← hK.out, hd, hd2, he, qscan_stop _ _ _ hne2]
              simp only
              rw [show ((k + (j - k + 1) : Nat) : Int) = (j : Int) + 1 by omega]
            clear hd he hd2 hne2 hK h39 hend h2
            go_wp2_with (go_at_call 17; refine (pl _).mono ?_; rintro e w1 ⟨rfl, rfl⟩)
            refine bodyPost_ret (v := .tuple #[.string (B acc), .int .i64 ((j : Int) + 1), .bool (isText acc)]) (by simp [results, Tryz.results29, go_sem]) rfl ?_
            exact ⟨by rw [hN.out], rfl⟩
      · have hne : (s[j]'hlt) ≠ 39 := fun e => h39 (by rw [e]; rfl)
        have q1 : (((s[j]'hlt).toNat : Int) == 39) = false := by simp; omega
        have hex := ext_one s j hlt
        have hK2 : Hid (qscan ((L s).drop (j + 1)) (acc ++ [s[j]'hlt]) (j + 1 - k) = z) := by
          show _ = _
          rw [← hK.out, hd, qscan_plain _ _ _ hne, show j + 1 - k = j - k + 1 by omega]
        clear hd hne hK h39
        go_wp2
        go_round
        case rel => exact ⟨j + 1, acc ++ [s[j]'hlt], by omega, by omega, rfl, by rw [hsz]; omega, by go_num, hK2⟩
        case measure => simp [intOf]; omega
    · have hN : Hid (y = .tuple #[.string (B []), .int .i64 0, .bool false]) := by
        show _ = _
        rw [← HY.out, ← hK.out, List.drop_eq_nil_of_le (by have := size_L s; omega), qscan_nil]
      clear hK
      go_wp2
      refine bodyPost_ret (v := .tuple #[.string (⟨#[]⟩), .int .i64 (0), .bool (false)]) (by simp [results, Tryz.results29, go_sem]) rfl ?_
      exact ⟨by rw [hN.out]; rfl, rfl⟩
end Go.Proofs.YtbenfgkomphlfaaGreatDoor
