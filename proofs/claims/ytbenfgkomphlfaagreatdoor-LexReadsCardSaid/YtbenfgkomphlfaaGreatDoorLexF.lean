/-
  ended, together: a text between quotes; letters, digits and _ that stand together.
-/
import Derived.Test.YtbenfgkomphlfaaGreatDoorLexG
import Derived.Test.YtbenfgkomphlfaaGreatDoorLexE
namespace Go.Proofs.YtbenfgkomphlfaaGreatDoor
open Go.RowKit
open Go.Lib hiding intOf
set_option linter.unusedVariables false

/-- a token and a number, as a function hands them back -/
def TN (p : Tok × Nat) : Value := .tuple #[p.1.v, .int .i64 (p.2 : Int)]
abbrev E0 : ByteArray := ⟨#[]⟩
theorem tb0 (w : World) : TB (w.alloc (.cells #[.int .i64 0, .int .i64 0, .string E0, .int .u64 0] 29)) w.heap.size 0 0 E0 0 := TB.new w 0 0 E0 0

theorem ended_any (w : World) (s : ByteArray) (k : Nat) (hs : s.size ≤ 1000000) :
    Calls Tryz.prog 60 #[.string s, .int .i64 (k : Int)] w fun e w' => e = .returned (TN (ended (L s) k)) ∧ Ext [] w w' := by
  have ht := fun W => isText_any W s hs
  have h0 := tb0 w
  cases hc : isText (L s)
  · have he : ended (L s) k = (Tok.zero, 0) := by unfold ended; rw [hc]; rfl
    rw [he]
    rw [hc] at ht
    clear hc he
    go_enter Tryz.func60, Tryz.ntmps60
    go_wp2_with (first
      | (go_at_call 51; refine (ht _).mono ?_; rintro e w1 ⟨rfl, h1⟩)
      | ((with_reducible refine at_store_T ?_); refine wpList_store_T rfl _ _ rfl rfl rfl (h0.ext h1 (by simp)) ?_; intro w9 hT9 h9))
    exact ret_T Tryz.results60 rfl hT9 rfl ⟨rfl, (((Ext.refl [] w).alloc _).trans h1).trans' h9 (by simp)⟩
  · have he : ended (L s) k = (⟨4, 0, s, 0⟩, k) := by unfold ended; rw [hc, B_L]; rfl
    rw [he]
    rw [hc] at ht
    clear hc he
    go_enter Tryz.func60, Tryz.ntmps60
    go_wp2_with (first
      | (go_at_call 51; refine (ht _).mono ?_; rintro e w1 ⟨rfl, h1⟩)
      | ((with_reducible refine at_store_T ?_); refine wpList_store_T rfl _ _ rfl rfl rfl (h0.ext h1 (by simp)) ?_; intro w9 hT9 h9))
    exact ret_T Tryz.results60 rfl hT9 rfl ⟨rfl, (((Ext.refl [] w).alloc _).trans h1).trans' h9 (by simp)⟩

theorem alnum_ascii (l : List UInt8) (h : l.all (spans cAlnum) = true) : ascii l = true := by
  unfold ascii
  rw [List.all_eq_true] at *
  intro b hb
  have := h b hb
  simp [spans] at this ⊢
  omega
theorem numOf_pos {l : List UInt8} {v : Int} (h : l.all (spans cAlnum) = true) (hv : itoa v = l) : 0 ≤ v := by
  unfold itoa at hv
  split at hv
  · subst hv
    simp [spans] at h
  · omega
theorem num_cases (l : List UInt8) : (∃ v, parseIntB 64 l = .ok v) ∨ ∀ v, parseIntB 64 l ≠ .ok v := by
  by_cases h : ∃ v, parseIntB 64 l = .ok v
  · exact .inl h
  · exact .inr fun v e => h ⟨v, e⟩
theorem numOf_none {l : List UInt8} (h : ∀ v, parseIntB 64 l ≠ .ok v) : numOf l = none := by
  unfold numOf
  split
  · rename_i v e
    exact absurd e (h v)
  · rfl
theorem together_any (w : World) (s : ByteArray) (hG : Glob w) (hs : s.size ≤ 1000000) (ha : (L s).all (spans cAlnum) = true) :
    Calls Tryz.prog 45 #[.string s] w fun e w' => e = .returned (TN (together (L s))) ∧ Ext [] w w' := by
  have h0 := tb0 w
  have hE := (Ext.refl [] w).alloc (.cells #[.int .i64 0, .int .i64 0, .string E0, .int .u64 0] 29)
  have nm := IsName_any _ s (hG.ext hE)
  have up := fun W => ToUpper_any W s hs (alnum_ascii _ ha)
  have iw := fun W (g : Glob W) => IsWord_any W (B (toUpperA (L s))) g
  rw [L_B] at iw
  generalize hX : toUpperA (L s) = X at *
  cases hn : isName (L s)
  · rw [hn] at nm
    cases hw : isWord X
    · rw [hw] at iw
      rcases num_cases (L s) with ⟨v, hp⟩ | hp
      ·
        have hb := parseIntB_bounds hp
        have hpi := fun W => ParseInt_ok W s hs v hp
        have hfi := fun W (g : Glob W) => FormatInt_any W v (by simpa using hb.1) (by have := hb.2; simp at this; omega) g
        by_cases hi : itoa v = L s
        · have hv := numOf_pos ha hi
          have hv2 : v < 18446744073709551616 := by have := hb.2; simp at this; omega
          have ht : together (L s) = (⟨3, 0, E0, v⟩, s.size) := by
            unfold together numOf
            rw [hn, hX, hw, hp]
            simp only [hi, if_true]
            rfl
          rw [hi, B_L] at hfi
          rw [ht]
          clear ht hi hp hw hn ha hX hb
          go_enter Tryz.func45, Tryz.ntmps45
          go_wp2_with (first
            | (go_at_call 50; refine nm.mono ?_; rintro e w1 ⟨rfl, h1⟩; have q1 := hE.trans h1)
            | (go_at_call 56; refine (up _).mono ?_; rintro e w2 ⟨rfl, h2⟩; have q2 := q1.trans h2)
            | (go_at_call 49; refine (iw _ (hG.ext q2)).mono ?_; rintro e w3 ⟨rfl, rfl⟩)
            | (go_at_call 57; refine (hpi _).mono ?_; rintro e w4 ⟨rfl, h4⟩; have q4 := q2.trans h4)
            | (go_at_call 58; refine (hfi _ (hG.ext q4)).mono ?_; rintro e w5 ⟨rfl, h5⟩; have q5 := q4.trans h5; have hT5 := (((h0.ext h1 (by simp)).ext h2 (by simp)).ext h4 (by simp)).ext h5 (by simp))
            | ((with_reducible refine at_store_T ?_); refine wpList_store_T rfl _ _ rfl rfl rfl (hT5) ?_; intro w9 hT9 h9))
          exact ret_T Tryz.results45 rfl hT9 rfl ⟨rfl, q5.trans' h9 (by simp)⟩
        · have ht : together (L s) = (Tok.zero, 0) := by
            unfold together numOf
            rw [hn, hX, hw, hp]
            simp only [hi, if_false]
            rfl
          have hne : ((B (itoa v)).toList == s.toList) = false := by rw [ByteArray.toList_eq, ByteArray.toList_eq]; show (itoa v == L s) = false; simpa using hi
          rw [ht]
          clear ht hi hp hw hn ha hX hb
          go_enter Tryz.func45, Tryz.ntmps45
          go_wp2_with (first
            | (go_at_call 50; refine nm.mono ?_; rintro e w1 ⟨rfl, h1⟩; have q1 := hE.trans h1)
            | (go_at_call 56; refine (up _).mono ?_; rintro e w2 ⟨rfl, h2⟩; have q2 := q1.trans h2)
            | (go_at_call 49; refine (iw _ (hG.ext q2)).mono ?_; rintro e w3 ⟨rfl, rfl⟩)
            | (go_at_call 57; refine (hpi _).mono ?_; rintro e w4 ⟨rfl, h4⟩; have q4 := q2.trans h4)
            | (go_at_call 58; refine (hfi _ (hG.ext q4)).mono ?_; rintro e w5 ⟨rfl, h5⟩; have q5 := q4.trans h5; have hT5 := (((h0.ext h1 (by simp)).ext h2 (by simp)).ext h4 (by simp)).ext h5 (by simp))
            | ((with_reducible refine at_store_T ?_); refine wpList_store_T rfl _ _ rfl rfl rfl (hT5) ?_; intro w9 hT9 h9))
          exact ret_T Tryz.results45 rfl hT9 rfl ⟨rfl, q5.trans' h9 (by simp)⟩
      ·
        have ht : together (L s) = (Tok.zero, 0) := by
          unfold together
          rw [hn, hX, hw, numOf_none hp]
          rfl
        have hpi := fun W (g : Glob W) => ParseInt_no W s g hs hp
        rw [ht]
        clear ht hp hw hn ha hX
        go_enter Tryz.func45, Tryz.ntmps45
        go_wp2_with (first
          | (go_at_call 50; refine nm.mono ?_; rintro e w1 ⟨rfl, h1⟩; have q1 := hE.trans h1)
          | (go_at_call 56; refine (up _).mono ?_; rintro e w2 ⟨rfl, h2⟩; have q2 := q1.trans h2)
          | (go_at_call 49; refine (iw _ (hG.ext q2)).mono ?_; rintro e w3 ⟨rfl, rfl⟩)
          | (go_at_call 57; refine (hpi _ (hG.ext q2)).mono ?_; rintro e w4 ⟨⟨v, ty, p, rfl⟩, h4⟩; have q4 := q2.trans h4; have hT5 := ((h0.ext h1 (by simp)).ext h2 (by simp)).ext h4 (by simp))
          | ((with_reducible refine at_store_T ?_); refine wpList_store_T rfl _ _ rfl rfl rfl (hT5) ?_; intro w9 hT9 h9))
        exact ret_T Tryz.results45 rfl hT9 rfl ⟨rfl, q4.trans' h9 (by simp)⟩
    · have ht : together (L s) = (⟨1, 0, B X, 0⟩, s.size) := by
        unfold together
        rw [hn, hX, hw]
        rfl
      rw [hw] at iw
      rw [ht]
      clear ht hw hn ha hX
      go_enter Tryz.func45, Tryz.ntmps45
      go_wp2_with (first
        | (go_at_call 50; refine nm.mono ?_; rintro e w1 ⟨rfl, h1⟩; have q1 := hE.trans h1)
        | (go_at_call 56; refine (up _).mono ?_; rintro e w2 ⟨rfl, h2⟩; have q2 := q1.trans h2)
        | (go_at_call 49; refine (iw _ (hG.ext q2)).mono ?_; rintro e w3 ⟨rfl, rfl⟩)
        | ((with_reducible refine at_store_T ?_); refine wpList_store_T rfl _ _ rfl rfl rfl ((h0.ext h1 (by simp)).ext h2 (by simp)) ?_; intro w9 hT9 h9))
      exact ret_T Tryz.results45 rfl hT9 rfl ⟨rfl, q2.trans' h9 (by simp)⟩
  · have ht : together (L s) = (⟨2, 0, s, 0⟩, s.size) := by
      unfold together
      rw [hn, B_L]
      rfl
    rw [hn] at nm
    rw [ht]
    clear ht hn ha hX
    go_enter Tryz.func45, Tryz.ntmps45
    go_wp2_with (first
      | (go_at_call 50; refine nm.mono ?_; rintro e w1 ⟨rfl, h1⟩; have q1 := hE.trans h1)
      | ((with_reducible refine at_store_T ?_); refine wpList_store_T rfl _ _ rfl rfl rfl (h0.ext h1 (by simp)) ?_; intro w9 hT9 h9))
    exact ret_T Tryz.results45 rfl hT9 rfl ⟨rfl, q1.trans' h9 (by simp)⟩
end Go.Proofs.YtbenfgkomphlfaaGreatDoor
