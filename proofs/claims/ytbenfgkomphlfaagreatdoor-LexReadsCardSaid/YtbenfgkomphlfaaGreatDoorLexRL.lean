/-
  The reference: Tokens.
-/
import Derived.Test.YtbenfgkomphlfaaGreatDoorLexRK
import Derived.Test.YtbenfgkomphlfaaGreatDoorLexK
namespace Go.Proofs.YtbenfgkomphlfaaGreatDoor
open Go.RowKit
open Go.Lib hiding intOf
set_option linter.unusedVariables false

theorem scan_drop (n p : Nat) (l : List UInt8) (h : n ≤ l.length) : scan p n l = scan (p + n) 0 (l.drop n) := by
  have e : l.take n ++ l.drop n = l := List.take_append_drop n l
  have hl : (l.take n).length = n := by rw [List.length_take]; omega
  have := scan_past (l.take n) (l.drop n) p
  rw [e, hl] at this
  exact this
theorem blank_parts (c : UInt8) : (((c.toNat : Int) == 32) = true ∧ spans cBlank c = true) ∨ (((c.toNat : Int) == 32) = false ∧ ((c.toNat : Int) == 9) = true ∧ spans cBlank c = true) ∨
    (((c.toNat : Int) == 32) = false ∧ ((c.toNat : Int) == 9) = false ∧ ((c.toNat : Int) == 10) = true ∧ spans cBlank c = true) ∨
    (((c.toNat : Int) == 32) = false ∧ ((c.toNat : Int) == 9) = false ∧ ((c.toNat : Int) == 10) = false ∧ ((c.toNat : Int) == 13) = true ∧ spans cBlank c = true) ∨
    (((c.toNat : Int) == 32) = false ∧ ((c.toNat : Int) == 9) = false ∧ ((c.toNat : Int) == 10) = false ∧ ((c.toNat : Int) == 13) = false ∧ spans cBlank c = false) := by
  simp [spans]
  omega
/-- what comes of the reference's Tokens -/
def RTokEnd (w : World) (l : List UInt8) (e : Ending) (w' : World) : Prop :=
  ∃ v ob, e = .returned (.tuple #[v, .int .i64 (tokensP l), .int .i64 (tokensE l)]) ∧ Ts w' v ob (tokensL l) ∧ Ext [] w w'
theorem rtokens_long (w : World) (s : ByteArray) (hs : 600 < s.size) : Calls Tryz.prog 7 #[.string s] w (RTokEnd w (L s)) := by
  have h0 : (600 : Int) < (s.size : Int) := by omega
  have h1 : 600 < (L s).length := hs
  have e1 : tokensL (L s) = [] := by unfold tokensL; rw [if_pos h1]
  have e2 : tokensP (L s) = 0 := by unfold tokensP; rw [if_pos h1]
  have e3 : tokensE (L s) = 3 := by unfold tokensE; rw [if_pos h1]
  have H := Lib.hid (And.intro e1 (And.intro e2 e3))
  clear e1 e2 e3
  go_enter Tryz.func7, Tryz.ntmps7
  go_wp2
  refine bodyPost_ret (v := .tuple #[.slice none 0 0, .int .i64 0, .int .i64 3]) (by simp [results, Tryz.results7, go_sem]) rfl ?_
  exact ⟨_, w.heap.size, by rw [H.out.2.1, H.out.2.2], by rw [H.out.1]; exact Ts.nil _ _, Ext.refl _ _⟩
/-- the tokens that are read ahead of the place j -/
def Read (s : ByteArray) (j : Nat) (acc : List Tok) : Prop := scan 0 0 (L s) = (acc ++ (scan j 0 ((L s).drop j)).1, (scan j 0 ((L s).drop j)).2)
theorem Read.blank {s : ByteArray} {j : Nat} {acc : List Tok} (h : Read s j acc) (hj : j < s.size) (hb : spans cBlank (s[j]'hj) = true) : Read s (j + 1) acc := by
  have hd : (L s).drop j = (s[j]'hj) :: (L s).drop (j + 1) := List.drop_eq_getElem_cons (show j < (L s).length from hj)
  unfold Read at *
  rw [h, hd, scan_blank j _ _ hb]
theorem Read.tok {s : ByteArray} {j : Nat} {acc : List Tok} (h : Read s j acc) (hj : j < s.size) (hb : spans cBlank (s[j]'hj) = false) (hf : (first ((L s).drop j)).2 ≠ 0) :
    Read s (j + (first ((L s).drop j)).2) (acc ++ [(first ((L s).drop j)).1.at j]) ∧ j + (first ((L s).drop j)).2 ≤ s.size := by
  have hle := (first_le ((L s).drop j)).1
  rw [List.length_drop, ← size_L] at hle
  refine ⟨?_, by omega⟩
  have hd : (L s).drop j = (s[j]'hj) :: (L s).drop (j + 1) := List.drop_eq_getElem_cons (show j < (L s).length from hj)
  unfold Read at *
  rw [h]
  obtain ⟨n, hn⟩ : ∃ n, (first ((L s).drop j)).2 = n := ⟨_, rfl⟩
  rw [hn] at hf hle ⊢
  have e : scan j 0 ((L s).drop j) = ((first ((L s).drop j)).1.at j :: (scan (j + n) 0 ((L s).drop (j + n))).1, (scan (j + n) 0 ((L s).drop (j + n))).2) := by
    rw [hd] at hn ⊢
    rw [scan_tok j _ _ hb (by rw [hn]; exact hf), hn]
    have e2 : scan (j + 1) (n - 1) ((L s).drop (j + 1)) = scan (j + n) 0 ((L s).drop (j + n)) := by
      rw [scan_drop (n - 1) (j + 1) _ (by rw [List.length_drop, ← size_L]; omega), List.drop_drop, show j + 1 + (n - 1) = j + n by omega]
    rw [e2]
  rw [e]
  simp
theorem Read.wrong {s : ByteArray} {j : Nat} {acc : List Tok} (h : Read s j acc) (hs : s.size ≤ 600) (hj : j < s.size) (hb : spans cBlank (s[j]'hj) = false) (hf : (first ((L s).drop j)).2 = 0) :
    tokensL (L s) = [] ∧ tokensP (L s) = j ∧ tokensE (L s) = 170 := by
  have hl : ¬ 600 < (L s).length := by rw [← size_L]; omega
  have hd : (L s).drop j = (s[j]'hj) :: (L s).drop (j + 1) := List.drop_eq_getElem_cons (show j < (L s).length from hj)
  have e : (scan 0 0 (L s)).2 = some ((first ((L s).drop j)).1.at j) := by
    unfold Read at h
    rw [h]
    rw [hd] at hf ⊢
    rw [scan_wrong j _ _ hb hf]
  unfold tokensL tokensP tokensE
  rw [if_neg hl, if_neg hl, if_neg hl, e]
  exact ⟨rfl, rfl, rfl⟩
theorem Read.done {s : ByteArray} {acc : List Tok} (h : Read s s.size acc) (hs : s.size ≤ 600) : tokensL (L s) = acc ∧ tokensP (L s) = 0 ∧ tokensE (L s) = 0 := by
  have hl : ¬ 600 < (L s).length := by rw [← size_L]; omega
  unfold Read at h
  rw [List.drop_eq_nil_of_le (by rw [← size_L]; omega)] at h
  have e : scan 0 0 (L s) = (acc, none) := by rw [h]; simp [scan]
  unfold tokensL tokensP tokensE
  rw [if_neg hl, if_neg hl, if_neg hl, e]
  exact ⟨rfl, rfl, rfl⟩
theorem one_lit (w : World) (k a n : Int) (s : ByteArray) : Sl ((w.alloc (.cells #[.int .i64 k, .int .i64 a, .string s, .int .u64 n] 29)).alloc (.cells #[.int .i64 k, .int .i64 a, .string s, .int .u64 n] 29)) (.slice (some ⟨w.heap.size + 1, 0, none⟩) 1 1) (w.heap.size + 1) 4 1 [.int .i64 k, .int .i64 a, .string s, .int .u64 n] := by
  have := Sl.lit (w.alloc (.cells #[.int .i64 k, .int .i64 a, .string s, .int .u64 n] 29)) [.int .i64 k, .int .i64 a, .string s, .int .u64 n] 29 4 1 rfl (by unfold maxLen; omega)
  simpa using this
theorem Read.start (s : ByteArray) : Read s 0 [] := by unfold Read; simp
set_option maxRecDepth 100000 in
set_option maxHeartbeats 4000000 in
theorem rtokens_short (w : World) (s : ByteArray) (hs : s.size ≤ 600) : Calls Tryz.prog 7 #[.string s] w (RTokEnd w (L s)) := by
  have hgt : ¬ ((600 : Int) < (s.size : Int)) := by omega
  go_enter Tryz.func7, Tryz.ntmps7
  go_wp2
  go_loopw [5, 6] (fun v i wr => ∃ (j : Nat) (acc : List Tok), j ≤ s.size ∧ acc.length ≤ j ∧ i = .int .i64 j ∧ wr.ownsRow w.heap.size 29 4 v acc.length (trows acc) ∧ Ext [] w wr ∧ Hid (Read s j acc)) (fun v i _ => s.size - (intOf i).toNat)
  case atStart => exact ⟨0, [], by omega, Nat.le_refl _, rfl, World.ownsRow_nil _ _ _ _, Ext.refl _ _, Read.start s⟩
  case round =>
    obtain ⟨j, acc, hj, ha, rfl, hO, hX, hR⟩ := hrel
    by_cases hlt : j < s.size
    · have b0 := (s[j]'hlt).toNat_lt
      rcases blank_parts (s[j]'hlt) with ⟨e1, hb⟩ | ⟨e1, e2, hb⟩ | ⟨e1, e2, e3, hb⟩ | ⟨e1, e2, e3, e4, hb⟩ | ⟨e1, e2, e3, e4, hb⟩
      iterate 4
        next =>
          have hR2 := Lib.hid (hR.out.blank hlt hb)
          clear hb hR
          go_wp2
          go_roundw
          case rel => exact ⟨j + 1, acc, by omega, by omega, by go_num, hO, hX, hR2⟩
          case measure => simp [intOf]; omega
      · have on := fun W => One_any W s j hlt (by omega)
        unfold OneEnd at on
        cases hz : decide ((first ((L s).drop j)).2 ≠ 0)
        · rw [hz] at on
          have HN := Lib.hid (hR.out.wrong hs hlt hb (by simpa using hz))
          clear hb hz hR
          go_wp2_with (go_at_call 14; (with_reducible refine (on _).mono ?_); rintro e w1 ⟨⟨tk, ta, ts, tn⟩, m, rfl, -, x1⟩)
          refine bodyPost_ret (v := .tuple #[.slice none 0 0, .int .i64 j, .int .i64 170]) (by simp [results, Tryz.results7, go_sem]) rfl ?_
          exact ⟨_, w.heap.size, by rw [HN.out.2.1, HN.out.2.2], by rw [HN.out.1]; exact Ts.nil _ _, (hX.trans x1).alloc _⟩
        · have hz' : (first ((L s).drop j)).2 ≠ 0 := by simpa using hz
          obtain ⟨r1, r2⟩ := hR.out.tok hlt hb hz'
          have hz2 : 0 < (first ((L s).drop j)).2 := by omega
          rw [hz] at on
          have on' : ∀ W, Calls Tryz.prog 14 #[.string s, .int .i64 (j : Int)] W fun e w' => ∃ (t : Tok) (m : Nat), e = .returned (.tuple #[t.v, .int .i64 (m : Int), .bool true]) ∧ (t = (first ((L s).drop j)).1.at j ∧ m = j + (first ((L s).drop j)).2) ∧ Ext [] W w' :=
            fun W => (on W).mono fun e w' ⟨t, m, h1, h2, h3⟩ => ⟨t, m, h1, h2 hz', h3⟩
          generalize (first ((L s).drop j)).1.at j = tt at *
          generalize (first ((L s).drop j)).2 = nn at *
          have HR := Lib.hid r1
          clear hb hz hz' hR on r1
          obtain ⟨tk, ta, ts, tn⟩ := tt
          go_wp2_with (first
            | (go_at_call 14; (with_reducible refine (on' _).mono ?_); rintro e w1 ⟨t, m, rfl, ⟨rfl, rfl⟩, x1⟩; have hX1 := hX.trans x1; have hO1 := own_ext hO x1 (fun k hk hm => by simp at hm); have hT1 := TB.new w1 tk ta ts tn; obtain ⟨t0, t1, t2, t3⟩ := hT1.c4; have hSl : Sl ((w1.alloc (.cells #[.int .i64 tk, .int .i64 ta, .string ts, .int .u64 tn] 29)).alloc (.cells #[.int .i64 tk, .int .i64 ta, .string ts, .int .u64 tn] 29)) (.slice (some ⟨w1.heap.size + 1, 0, none⟩) 1 1) (w1.heap.size + 1) 4 1 [.int .i64 tk, .int .i64 ta, .string ts, .int .u64 tn] := one_lit w1 tk ta tn ts)
            | (at_builtin; refine wpList_append_sl TT rfl (.tmp 51) (.tmp 53) rfl rfl ((hO1.alloc _).alloc _) rfl hSl (by intro u hu; simp at hu; rcases hu with rfl | rfl | rfl | rfl <;> rfl) (by unfold maxLen; omega) (by omega) (by have := hX1.size; simp; omega) ?_; intro v' w3 hO' h3; have hX3 := ((hX1.alloc (.cells #[.int .i64 tk, .int .i64 ta, .string ts, .int .u64 tn] 29)).alloc (.cells #[.int .i64 tk, .int .i64 ta, .string ts, .int .u64 tn] 29)).trans' h3 (fun i hi => .inr (own_ge hO i hi))))
          go_roundw
          case rel => exact ⟨j + nn, acc ++ [⟨tk, ta, ts, tn⟩], r2, by simp; omega, by go_num, by simpa [trows_append, trows, Tok.row] using hO', hX3, HR⟩
          case measure => simp [intOf]; omega
    · obtain rfl : j = s.size := by omega
      have HN := Lib.hid (hR.out.done hs)
      obtain ⟨ob0, hsl, -⟩ := Sl.of_own hO
      obtain ⟨a5, cap5, rfl⟩ := Ts.shape (show Ts wr _ ob0 acc from hsl)
      clear hR
      go_wp2
      refine bodyPost_ret (v := .tuple #[.slice a5 acc.length cap5, .int .i64 0, .int .i64 0]) (by simp [results, Tryz.results7, go_sem]) rfl ?_
      exact ⟨_, ob0, by rw [HN.out.2.1, HN.out.2.2], by rw [HN.out.1]; exact hsl, hX⟩
theorem rTokens_any (w : World) (s : ByteArray) : Calls Tryz.prog 7 #[.string s] w (RTokEnd w (L s)) := by
  by_cases hs : s.size ≤ 600
  · exact rtokens_short w s hs
  · exact rtokens_long w s (by omega)
end Go.Proofs.YtbenfgkomphlfaaGreatDoor
