/-
  The reference: One, where no quote stands ahead.
-/
import Derived.Test.YtbenfgkomphlfaaGreatDoorLexRJ
import Derived.Deep.CutRange
import Derived.Deep.CutBlock
import Derived.Deep.DeepCutAuto
import Derived.Deep.RegionHeld3
namespace Go.Proofs.YtbenfgkomphlfaaGreatDoor
open Go.RowKit
open Go.Lib hiding intOf
set_option linter.unusedVariables false

theorem ext_stored {X : List Nat} {a w : World} (h : Ext X a w) {b : Nat} (hb : b ∈ X ∨ a.heap.size ≤ b) (x y z v : Value) : Ext X a ((((w.setCell ⟨b, 0, none⟩ x).setCell ⟨b, 1, none⟩ y).setCell ⟨b, 2, none⟩ z).setCell ⟨b, 3, none⟩ v) :=
  (((h.setCell hb x).setCell hb y).setCell hb z).setCell hb v
theorem TB.stored {w : World} {b : Nat} {k a n : Int} {s : ByteArray} (h : TB w b k a s n) (k' a' n' : Int) (s' : ByteArray) :
    TB ((((w.setCell ⟨b, 0, none⟩ (.int .i64 k')).setCell ⟨b, 1, none⟩ (.int .i64 a')).setCell ⟨b, 2, none⟩ (.string s')).setCell ⟨b, 3, none⟩ (.int .u64 n')) b k' a' s' n' := by
  have := (((Blk.set (l := [.int .i64 k, .int .i64 a, .string s, .int .u64 n]) h 0 (.int .i64 k')).set 1 (.int .i64 a')).set 2 (.string s')).set 3 (.int .u64 n')
  exact this
theorem Ss.mk {w w' : World} {v : Value} {ob : Nat} (h : Ss w v ob refSigns) (e : w = w') : Ss w' v ob refSigns := e ▸ h
theorem all_step {l : List UInt8} {n : Nat} {c : UInt8} (h : l[n]? = some c) (ha : (l.take n).all (spans cAlnum) = true) (hc : spans cAlnum c = true) : (l.take (n + 1)).all (spans cAlnum) = true := by
  rw [List.take_add_one, h, List.all_append, ha]
  simp [hc]
theorem drop_at (s : ByteArray) (k j : Nat) (hj : k ≤ j) (h : j < s.size) : ((L s).drop k)[j - k]? = some (s[j]'h) := by
  rw [List.getElem?_drop, show k + (j - k) = j by omega]
  exact List.getElem?_eq_getElem (show j < (L s).length from h)
theorem drop_past (s : ByteArray) (k j : Nat) (h : s.size ≤ j) : ((L s).drop k)[j - k]? = none ∨ j < k := by
  rcases Nat.lt_or_ge j k with h1 | h1
  · exact .inr h1
  · refine .inl ?_
    rw [List.getElem?_drop, show k + (j - k) = j by omega]
    exact List.getElem?_eq_none (by rw [← size_L]; exact h)
/-- the signs, as One asks -/
theorem sign_two (s : ByteArray) (k : Nat) (h2 : k + 1 < s.size) : signOf ((L s).drop k) = if refSigns.contains [s[k]'(by omega), s[k + 1]'h2] then [s[k]'(by omega), s[k + 1]'h2] else if refSigns.contains [s[k]'(by omega)] then [s[k]'(by omega)] else [] := by
  have h1 : k < s.size := by omega
  have d1 : (L s).drop k = (s[k]'h1) :: (s[k + 1]'h2) :: (L s).drop (k + 2) := by
    rw [List.drop_eq_getElem_cons (show k < (L s).length from h1), List.drop_eq_getElem_cons (show k + 1 < (L s).length from h2)]
    rfl
  rw [d1]
  exact signOf_two _ _ _
theorem sign_last (s : ByteArray) (k : Nat) (h1 : k + 1 = s.size) : signOf ((L s).drop k) = if refSigns.contains [s[k]'(by omega)] then [s[k]'(by omega)] else [] := by
  have h0 : k < s.size := by omega
  have d1 : (L s).drop k = [s[k]'h0] := by
    rw [List.drop_eq_getElem_cons (show k < (L s).length from h0), List.drop_eq_nil_of_le (by rw [← size_L]; omega)]
    rfl
  rw [d1]
  exact signOf_one _
theorem ext_two (s : ByteArray) (j : Nat) (h : j + 1 < s.size) : s.extract j (j + 2) = B [s[j]'(by omega), s[j + 1]'h] := L_inj.1 (by
  rw [L_extract, L_B, List.drop_eq_getElem_cons (show j < (L s).length from by have := size_L s; omega), List.drop_eq_getElem_cons (show j + 1 < (L s).length from h), show j + 2 - j = 2 by omega]
  rfl)
theorem sign_first (s : ByteArray) (k : Nat) (hk : k < s.size) (hne : (s[k]'hk) ≠ 39) (hc : spans cAlnum (s[k]'hk) = false) : first ((L s).drop k) = (⟨5, 0, B (signOf ((L s).drop k)), 0⟩, (signOf ((L s).drop k)).length) := by
  have d1 : (L s).drop k = (s[k]'hk) :: (L s).drop (k + 1) := List.drop_eq_getElem_cons (show k < (L s).length from hk)
  rw [d1]
  refine first_sign _ _ hne ?_
  unfold ahead
  rw [List.takeWhile_cons, hc]
  rfl
theorem row_ext (s : ByteArray) (k n : Nat) : s.extract k (k + n) = B (((L s).drop k).take n) := L_inj.1 (by rw [L_extract, L_B, show k + n - k = n by omega])
theorem not_alnum (s : ByteArray) (k : Nat) (hk : k < s.size) (h : ahead cAlnum ((L s).drop k) = 0) : spans cAlnum (s[k]'hk) = false := by
  have d1 : (L s).drop k = (s[k]'hk) :: (L s).drop (k + 1) := List.drop_eq_getElem_cons (show k < (L s).length from hk)
  rw [d1] at h
  unfold ahead at h
  rw [List.takeWhile_cons] at h
  cases hc : spans cAlnum (s[k]'hk)
  · rfl
  · rw [hc] at h; simp at h
theorem ahead_stop (s : ByteArray) (k j : Nat) (hj : k ≤ j) (hjs : j ≤ s.size) (h1 : (((L s).drop k).take (j - k)).all (spans cAlnum) = true) (h2 : ∀ h : j < s.size, spans cAlnum (s[j]'h) = false) : ahead cAlnum ((L s).drop k) = j - k := by
  refine ahead_at _ _ (by rw [List.length_drop, ← size_L]; omega) h1 fun c hc => ?_
  rcases Nat.lt_or_ge j s.size with h | h
  · rw [drop_at s k j hj h] at hc
    rw [← Option.some.inj hc]
    exact h2 h
  · rw [List.getElem?_drop, show k + (j - k) = j by omega, List.getElem?_eq_none (by rw [← size_L]; exact h)] at hc
    cases hc
set_option maxRecDepth 100000 in
set_option maxHeartbeats 4000000 in
theorem one_other (w : World) (s : ByteArray) (k : Nat) (hk : k < s.size) (hs : s.size ≤ 10000) (h39 : (s[k]'hk).toNat ≠ 39) :
    Calls Tryz.prog 14 #[.string s, .int .i64 (k : Int)] w (OneEnd ((L s).drop k) k w) := by
  have h0 := tb0 w
  have hE := (Ext.refl [] w).alloc (.cells #[.int .i64 0, .int .i64 0, .string E0, .int .u64 0] 29)
  have q1 : (((s[k]'hk).toNat : Int) == 39) = false := by simp; omega
  have hle := ahead_le cAlnum ((L s).drop k)
  rw [List.length_drop, ← size_L] at hle
  have HA : Hid (∀ j, k ≤ j → j ≤ s.size → (((L s).drop k).take (j - k)).all (spans cAlnum) = true → (∀ h : j < s.size, spans cAlnum (s[j]'h) = false) → j = k + ahead cAlnum ((L s).drop k)) := by
    intro j h1 h2 h3 h4
    have := ahead_stop s k j h1 h2 h3 h4
    omega
  obtain ⟨n, hn⟩ : ∃ n, ahead cAlnum ((L s).drop k) = n := ⟨_, rfl⟩
  have HN := Lib.hid hn
  rw [hn] at HA hle
  clear hn
  go_enter Tryz.func14, Tryz.ntmps14
  go_upto_block 0 with (fail)
  generalize hw0 : w.alloc (.cells #[.int .i64 0, .int .i64 0, .string E0, .int .u64 0] 29) = w0 at *
  go_cut [10] (fun s10 wx => s10 = .int .i64 ((k + n : Nat) : Int) ∧ wx = w0)
  case first =>
    go_wp2
    go_loop [10] (fun i => ∃ j : Nat, k ≤ j ∧ j ≤ s.size ∧ i = .int .i64 j ∧ Hid ((((L s).drop k).take (j - k)).all (spans cAlnum) = true)) (fun i => s.size - (intOf i).toNat)
    case atStart => exact ⟨k, Nat.le_refl _, by omega, rfl, by simp [Hid]⟩
    case round =>
      obtain ⟨j, hj, hjs, rfl, hK⟩ := hrel
      by_cases hlt : j < s.size
      · have b0 := (s[j]'hlt).toNat_lt
        have pt := fun W => part_any W (s[j]'hlt)
        cases hc : spans cAlnum (s[j]'hlt)
        · rw [hc] at pt
          have hJ := Lib.hid (HA.out j hj hjs hK.out (fun _ => hc))
          clear hc hK HA HN
          go_wp2_with (go_at_call 30; (with_reducible refine (pt _).mono ?_); rintro e w1 ⟨rfl, rfl⟩)
          go_meet
          exact ⟨by rw [hJ.out], rfl⟩
        · rw [hc] at pt
          have hK2 : Hid ((((L s).drop k).take (j + 1 - k)).all (spans cAlnum) = true) := by
            show _ = _
            rw [show j + 1 - k = j - k + 1 by omega]
            exact all_step (drop_at s k j hj hlt) hK.out hc
          clear hc hK HA HN
          go_wp2_with (go_at_call 30; (with_reducible refine (pt _).mono ?_); rintro e w1 ⟨rfl, rfl⟩)
          go_round
          case rel => exact ⟨j + 1, by omega, by omega, by go_num, hK2⟩
          case measure => simp [intOf]; omega
      · have hJ := Lib.hid (HA.out j hj hjs hK.out (fun h => absurd h hlt))
        clear hK HA HN
        go_wp2
        go_meet
        exact ⟨by rw [hJ.out], rfl⟩
  case rest =>
    obtain ⟨rfl, rfl⟩ := hcut
    clear hw0
    generalize wc = w0 at *
    rcases Nat.eq_zero_or_pos n with rfl | hn0
    · have hne : (s[k]'hk) ≠ 39 := fun e => h39 (by rw [e]; rfl)
      have hf := sign_first s k hk hne (not_alnum s k hk HN.out)
      have e1 := ext_one s k hk
      have hb0 : (0 : Int) ≤ (k : Int) := by omega
      have hb1 : (k : Int) ≤ (k : Int) + 1 := by omega
      have hb2 : (k : Int) ≤ (k : Int) + 2 := by omega
      have hb3 : (k : Int) + 1 ≤ (s.size : Int) := by omega
      have hwr : IntKind.i64.wrap ((k : Int) + 2) = (k : Int) + 2 := by simp [IntKind.wrap, IntKind.bits, IntKind.signed]; omega
      have hwr1 : IntKind.i64.wrap ((k : Int) + 1) = (k : Int) + 1 := by simp [IntKind.wrap, IntKind.bits, IntKind.signed]; omega
      have hh := fun W v ob x (h : Ss W v ob refSigns) => has_any W v ob refSigns x h (by decide)
      clear HA HN h39 hne hle
      by_cases h2 : k + 1 < s.size
      · have hsg := sign_two s k h2
        have e2 := ext_two s k h2
        have q2 : (k : Int) + 2 ≤ (s.size : Int) := by omega
        have q3 : decide (IntKind.i64.wrap ((k : Int) + 2) ≤ (s.size : Int)) = true := by rw [hwr]; simp; omega
        have g1 := fun W v ob h => hh W v ob [s[k]'hk, s[k + 1]'h2] h
        obtain ⟨b, hb⟩ : ∃ b, refSigns.contains [s[k]'hk, s[k + 1]'h2] = b := ⟨_, rfl⟩
        have e2' : s.extract k ((k : Int) + 2).toNat = B [s[k]'hk, s[k + 1]'h2] := by rw [← e2]; congr 1
        have e1' : s.extract k ((k : Int) + 1).toNat = B [s[k]'hk] := by rw [← e1]; congr 1
        rw [hb] at g1 hsg
        have HF := Lib.hid (And.intro hf hsg)
        clear hf hsg hb
        go_upto_region 15 with (fail)
        go_cut [87] (fun s87 wx => s87 = .bool b ∧ Ext [] w0 wx)
        case first =>
          go_region_held3 (fun w' => Ext [] w0 w')
            (first | exact (Ext.refl [] w0).drew | exact Ext.refl [] w0 | assumption)
            (first
            | (go_at_call 19; refine (Signs_any _).mono ?_; rintro e w2 ⟨v, ob, rfl, hS, x2⟩; have y2 : Ext [] w0 w2 := by first | exact x2 | exact (Ext.refl [] w0).drew.trans x2)
            | (go_at_call 18; (with_reducible refine (g1 _ _ _ hS).mono ?_); rintro e w3 ⟨rfl, rfl⟩))
          all_goals (go_wp2_with fail; go_meet; exact ⟨rfl, y2⟩)
        case rest =>
          obtain ⟨rfl, hx⟩ := hcut
          cases b
          · have hTx := h0.ext hx (by simp)
            have g2 := fun W v ob h => hh W v ob [s[k]'hk] h
            obtain ⟨c, hc⟩ : ∃ c, refSigns.contains [s[k]'hk] = c := ⟨_, rfl⟩
            have HQ : Hid (if c then first ((L s).drop k) = (⟨5, 0, B [s[k]'hk], 0⟩, 1) else (first ((L s).drop k)).2 = 0) := by
              show if c then _ else _
              obtain ⟨hf, hsg⟩ := HF.out
              rw [if_neg (by simp), hc] at hsg
              rw [hf, hsg]
              cases c <;> rfl
            rw [hc] at g2
            clear hc HF
            go_upto_region 17 with (fail)
            go_region_with (first
              | (go_at_call 19; refine (Signs_any _).mono ?_; rintro e w2 ⟨v, ob, rfl, hS, x2⟩; have y2 : Ext [] wc w2 := by first | exact x2 | exact (Ext.refl [] wc).drew.trans x2)
              | (go_at_call 18; (with_reducible refine (g2 _ _ _ hS).mono ?_); rintro e w3 ⟨rfl, rfl⟩; have hT2 := hTx.ext y2 (by simp); obtain ⟨t0, t1, t2, t3⟩ := hT2.c4; have f0 := hT2.frz 0; have f1 := hT2.frz 1; have f2 := hT2.frz 2; have f3 := hT2.frz 3))
            all_goals
              go_wp2
              refine ret_T2 Tryz.results14 rfl (hT2.stored _ _ _ _) rfl ?_
              have hX := ext_stored ((hE.trans hx).trans y2) (b := w.heap.size) (.inr (Nat.le_refl _)) (.int .i64 5) (.int .i64 k) (.string (B [s[k]'hk])) (.int .u64 0)
              cases c
              · exact OneEnd.no (j := k + 1) (by simpa [Hid] using HQ) rfl hX
              · exact OneEnd.yes (m := 1) (j := k + 1) (by simpa [Hid] using HQ) (by simp) rfl rfl hX
          · obtain ⟨hf, hsg⟩ := HF.out
            rw [if_pos rfl] at hsg
            rw [hsg] at hf
            have HQ := Lib.hid hf
            clear hf hsg HF
            go_wp2_with ((with_reducible refine at_store_T ?_); refine wpList_store_T rfl _ _ rfl rfl rfl (h0.ext hx (by simp)) ?_; intro w9 hT9 h9)
            exact ret_T2 Tryz.results14 rfl hT9 rfl (OneEnd.yes HQ.out (by simp) rfl rfl ((hE.trans hx).trans' h9 (by simp)))
      · have hk1 : k + 1 = s.size := by omega
        have hsg : signOf ((L s).drop k) = if refSigns.contains [s[k]'hk] then [s[k]'hk] else [] := sign_last s k hk1
        have q3 : decide (IntKind.i64.wrap ((k : Int) + 2) ≤ (s.size : Int)) = false := by rw [hwr]; simp; omega
        have q4 : decide ((k : Int) + 2 ≤ (s.size : Int)) = false := by simp; omega
        have e1' : s.extract k ((k : Int) + 1).toNat = B [s[k]'hk] := by rw [← e1]; congr 1
        have HF := Lib.hid (And.intro hf hsg)
        clear hf hsg hk1
        go_upto_region 15 with (fail)
        go_cut [87] (fun s87 wx => s87 = .bool false ∧ Ext [] w0 wx)
        case first =>
          go_quiet (fail)
          go_wp2_with fail
          go_meet
          exact ⟨rfl, (Ext.refl [] w0).drewN _⟩
        case rest =>
          obtain ⟨rfl, hx⟩ := hcut
          have hTx := h0.ext hx (by simp)
          have g2 := fun W v ob h => hh W v ob [s[k]'hk] h
          obtain ⟨c, hc⟩ : ∃ c, refSigns.contains [s[k]'hk] = c := ⟨_, rfl⟩
          have HQ : Hid (if c then first ((L s).drop k) = (⟨5, 0, B [s[k]'hk], 0⟩, 1) else (first ((L s).drop k)).2 = 0) := by
            show if c then _ else _
            obtain ⟨hf, hsg⟩ := HF.out
            rw [hc] at hsg
            rw [hf, hsg]
            cases c <;> rfl
          rw [hc] at g2
          clear hc HF
          go_upto_region 17 with (fail)
          go_region_with (first
            | (go_at_call 19; refine (Signs_any _).mono ?_; rintro e w2 ⟨v, ob, rfl, hS, x2⟩; have y2 : Ext [] wc w2 := by first | exact x2 | exact (Ext.refl [] wc).drew.trans x2)
            | (go_at_call 18; (with_reducible refine (g2 _ _ _ hS).mono ?_); rintro e w3 ⟨rfl, rfl⟩; have hT2 := hTx.ext y2 (by simp); obtain ⟨t0, t1, t2, t3⟩ := hT2.c4; have f0 := hT2.frz 0; have f1 := hT2.frz 1; have f2 := hT2.frz 2; have f3 := hT2.frz 3))
          all_goals
            go_wp2
            refine ret_T2 Tryz.results14 rfl (hT2.stored _ _ _ _) rfl ?_
            have hX := ext_stored ((hE.trans hx).trans y2) (b := w.heap.size) (.inr (Nat.le_refl _)) (.int .i64 5) (.int .i64 k) (.string (B [s[k]'hk])) (.int .u64 0)
            cases c
            · exact OneEnd.no (j := k + 1) (by simpa [Hid] using HQ) rfl hX
            · exact OneEnd.yes (m := 1) (j := k + 1) (by simpa [Hid] using HQ) (by simp) rfl rfl hX
    · have hex := row_ext s k n
      have hla : (((L s).drop k).take n).length = n := by rw [List.length_take, List.length_drop, ← size_L]; omega
      have hall : (((L s).drop k).take n).all (spans cAlnum) = true := by rw [← HN.out]; exact ahead_alnum _
      have hfr := first_row ((L s).drop k) n hn0 HN.out
      generalize ((L s).drop k).take n = u at *
      obtain ⟨j, hj⟩ : ∃ j, k + n = j := ⟨_, rfl⟩
      rw [hj] at hex
      rw [show (((k + n : Nat) : Int)) = (j : Int) by rw [hj]]
      have hJ := Lib.hid hj
      have hkj : (k : Int) < (j : Int) := by omega
      have hjs : (j : Int) ≤ (s.size : Int) := by omega
      have hkj' : (k : Int) ≤ (j : Int) := by omega
      have hk0 : (0 : Int) ≤ (k : Int) := by omega
      have HL := Lib.hid hla
      have hus : (B u).size ≤ 1000000 := by show u.length ≤ _; omega
      clear HA HN h39 hle hn0 hj hla
      cases hm : numR u with
      | some m =>
        have HF : Hid (first ((L s).drop k) = (⟨3, 0, B [], m⟩, n)) := by
          show _ = _
          rw [hfr, together_num hall hm, HL.out]
        have nm : ∀ W, Calls Tryz.prog 31 #[.string (B u)] W fun e w' => e = .returned (.tuple #[.int .u64 (m : Int), .bool true]) ∧ W = w' := fun W =>
          (Number_any W (B u)).mono fun e w' ⟨⟨v, he, hv⟩, hw⟩ => by
            rw [L_B, hm] at he
            rw [L_B] at hv
            exact ⟨by rw [he, hv m hm]; rfl, hw⟩
        clear hfr hall hm
        go_wp2_with (first
          | (go_at_call 31; (with_reducible refine (nm _).mono ?_); rintro e w2 ⟨rfl, rfl⟩)
          | ((with_reducible refine at_store_T ?_); refine wpList_store_T rfl _ _ rfl rfl rfl (h0) ?_; intro w9 hT9 h9))
        exact ret_T2 Tryz.results14 rfl hT9 rfl (OneEnd.yes HF.out (by have := HL.out; have := hJ.out; omega) hJ.out.symm rfl (hE.trans' h9 (by simp)))
      | none =>
        have nm : ∀ W, Calls Tryz.prog 31 #[.string (B u)] W fun e w' => (∃ v : Int, e = .returned (.tuple #[.int .u64 v, .bool false])) ∧ W = w' := fun W =>
          (Number_any W (B u)).mono fun e w' ⟨⟨v, he, _⟩, hw⟩ => by
            rw [L_B, hm] at he
            exact ⟨⟨v, he⟩, hw⟩
        have up := fun W => Upper_any W (B u) hus
        rw [L_B] at up
        have iw := fun W => rIsWord_any W (toUpperA u)
        have hwd := fun h => together_word (u := u) h
        have hno := fun h h2 => together_none (u := u) hall hm h h2
        cases hw : isWord (toUpperA u)
        · rw [hw] at iw
          have nme := fun W => rIsName_any W (B u)
          rw [L_B] at nme
          obtain ⟨c, hc⟩ : ∃ c, isName u = c := ⟨_, rfl⟩
          rw [hc] at nme
          have HF : Hid (if c then first ((L s).drop k) = (⟨2, 0, B u, 0⟩, n) else (first ((L s).drop k)).2 = 0) := by
            show if c then _ else _
            rw [hfr]
            cases c
            · rw [if_neg (by simp), hno hw hc]
            · rw [if_pos rfl, together_name hc, HL.out]
          clear hfr hall hm hwd hno hw hc
          generalize toUpperA u = U at *
          go_wp2_with (first
            | (go_at_call 31; (with_reducible refine (nm _).mono ?_); rintro e w2 ⟨⟨v, rfl⟩, rfl⟩)
            | (go_at_call 32; (with_reducible refine (up _).mono ?_); rintro e w3 ⟨rfl, x3⟩)
            | (go_at_call 15; (with_reducible refine (iw _).mono ?_); rintro e w4 ⟨rfl, x4⟩)
            | (go_at_call 16; (with_reducible refine (nme _).mono ?_); rintro e w5 ⟨rfl, x5⟩)
            | ((with_reducible refine at_store_T ?_); refine wpList_store_T rfl _ _ rfl rfl rfl (((h0.ext x3 (by simp)).ext x4 (by simp)).ext x5 (by simp)) ?_; intro w9 hT9 h9))
          refine ret_T2 Tryz.results14 rfl hT9 rfl ?_
          have hX := (((hE.trans x3).trans x4).trans x5).trans' h9 (by simp)
          cases c
          · exact OneEnd.no (j := j) (by simpa [Hid] using HF) rfl hX
          · exact OneEnd.yes (m := n) (j := j) (by simpa [Hid] using HF) (by have := HL.out; have := hJ.out; omega) hJ.out.symm rfl hX
        · rw [hw] at iw
          have HF : Hid (first ((L s).drop k) = (⟨1, 0, B (toUpperA u), 0⟩, n)) := by
            show _ = _
            rw [hfr, hwd hw, HL.out]
          clear hfr hall hm hwd hno hw
          generalize toUpperA u = U at *
          go_wp2_with (first
            | (go_at_call 31; (with_reducible refine (nm _).mono ?_); rintro e w2 ⟨⟨v, rfl⟩, rfl⟩)
            | (go_at_call 15; (with_reducible refine (iw _).mono ?_); rintro e w4 ⟨rfl, x4⟩)
            | (go_at_call 32; (with_reducible refine (up w0).mono ?_); rintro e w3 ⟨rfl, x3⟩)
            | (go_at_call 32; (with_reducible refine (up w4).mono ?_); rintro e w5 ⟨rfl, x5⟩)
            | ((with_reducible refine at_store_T ?_); refine wpList_store_T rfl _ _ rfl rfl rfl (((h0.ext x3 (by simp)).ext x4 (by simp)).ext x5 (by simp)) ?_; intro w9 hT9 h9))
          exact ret_T2 Tryz.results14 rfl hT9 rfl (OneEnd.yes HF.out (by have := HL.out; have := hJ.out; omega) hJ.out.symm rfl ((((hE.trans x3).trans x4).trans x5).trans' h9 (by simp)))
theorem One_any (w : World) (s : ByteArray) (k : Nat) (hk : k < s.size) (hs : s.size ≤ 10000) :
    Calls Tryz.prog 14 #[.string s, .int .i64 (k : Int)] w (OneEnd ((L s).drop k) k w) := by
  by_cases h : (s[k]'hk).toNat = 39
  · exact one_quote w s k hk hs h
  · exact one_other w s k hk hs h
end Go.Proofs.YtbenfgkomphlfaaGreatDoor
